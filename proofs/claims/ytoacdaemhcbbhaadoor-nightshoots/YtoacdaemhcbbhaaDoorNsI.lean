/-
  A house: what it is in memory; one instrument more: the program's Fit, by contract.
-/
import Derived.Test.YtoacdaemhcbbhaaDoorNsH
import Derived.Test.YtoacdaemhcbbhaaDoorSenA
import Derived.Test.YtoacdaemhcbbhaaDoorKitA
namespace Go.Proofs.YtoacdaemhcbbhaaDoor
open Go Go.RowKit

theorem lt_of_not {a b : List UInt8} (h : ¬ a < b) (hn : a ≠ b) : b < a := by
  rw [List.not_lt] at h
  by_cases q : a ≤ b
  · exact absurd (List.le_antisymm q h) hn
  · exact List.not_le.1 q
theorem getD_mem {X : List Fg} {k : Nat} (h : k < X.length) : X.getD k fg0 ∈ X := by
  rw [List.getD_eq_getElem?_getD, List.getElem?_eq_getElem h]
  exact List.getElem_mem _
theorem mem_getD {X : List Fg} {f : Fg} (h : f ∈ X) : ∃ k, k < X.length ∧ X.getD k fg0 = f := by
  obtain ⟨k, hk, e⟩ := List.mem_iff_getElem.1 h
  exact ⟨k, hk, by rw [List.getD_eq_getElem?_getD, List.getElem?_eq_getElem hk]; exact e⟩
theorem atP_iff {X : List Fg} {x : ByteArray} {k : Nat} (hO : Ord X) (hp : IsPl X x k) : atP X x k = true ↔ ∃ f ∈ X, nb f.t.nm = nb x := by
  unfold atP
  rw [Bool.and_eq_true, decide_eq_true_eq, decide_eq_true_eq]
  constructor
  · rintro ⟨h1, h2⟩
    exact ⟨_, getD_mem h1, h2⟩
  · rintro ⟨f, hf, e⟩
    obtain ⟨j, hj, rfl⟩ := mem_getD hf
    rcases Nat.lt_trichotomy j k with q | q | q
    · have := hp.2.1 j q
      rw [e] at this
      exact absurd this (List.lt_irrefl _)
    · subst q
      exact ⟨hj, e⟩
    · have h1 := hO.at_ q hj
      rw [e] at h1
      exact absurd h1 (hp.2.2 k (Nat.le_refl _) (by omega))
theorem ord_ins {X : List Fg} {f : Fg} {k : Nat} (hO : Ord X) (hp : IsPl X f.t.nm k) (h : atP X f.t.nm k = false) : Ord (insF X k f) := by
  have hno : ∀ g ∈ X, nb g.t.nm ≠ nb f.t.nm := fun g hg e => by
    have := (atP_iff hO hp).2 ⟨g, hg, e⟩
    rw [h] at this
    cases this
  have hX : (X.take k ++ X.drop k).Pairwise fun a b => nb a.t.nm < nb b.t.nm := by rw [List.take_append_drop]; exact hO
  obtain ⟨p1, p2, p3⟩ := List.pairwise_append.1 hX
  have hlo : ∀ a ∈ X.take k, nb a.t.nm < nb f.t.nm := fun a ha => by
    obtain ⟨j, hj, e⟩ := List.mem_iff_getElem.1 ha
    rw [List.length_take] at hj
    have := hp.2.1 j (by omega)
    rw [List.getD_eq_getElem?_getD, List.getElem?_eq_getElem (by omega)] at this
    rw [List.getElem_take] at e
    rw [← e]
    exact this
  have hhi : ∀ b ∈ X.drop k, nb f.t.nm < nb b.t.nm := fun b hb => by
    refine lt_of_not ?_ (hno b (List.mem_of_mem_drop hb))
    obtain ⟨j, hj, e⟩ := List.mem_iff_getElem.1 hb
    rw [List.length_drop] at hj
    have := hp.2.2 (k + j) (by omega) (by omega)
    rw [List.getD_eq_getElem?_getD, List.getElem?_eq_getElem (by omega)] at this
    rw [List.getElem_drop] at e
    rw [← e]
    exact this
  unfold insF Ord
  refine List.pairwise_append.2 ⟨p1, List.pairwise_cons.2 ⟨hhi, p2⟩, fun a ha b hb => ?_⟩
  rcases List.mem_cons.1 hb with rfl | hb
  · exact hlo a ha
  · exact p3 a ha b hb
theorem ins_perm (X : List Fg) (k : Nat) (f : Fg) : (insF X k f).Perm (f :: X) := by
  unfold insF
  refine List.perm_middle.trans ?_
  rw [List.take_append_drop]
/-- a house. -/
structure Hs (w : World) (B hb : Nat) (X : List Fg) : Prop where
  row : ∃ v, w.heap[hb]? = some (.cells #[v] 96) ∧ w.ownsRow B 104 2 v X.length (flatFg X)
  ord : Ord X
  ins : ∀ f ∈ X, InsR w B f.t (.iface f.ty f.pv)
  hB : B ≤ hb
theorem Hs.below {w v : World} {B hb : Nat} {X : List Fg} (h : Hs w B hb X) (k : Below w.heap.size w v) : Hs v B hb X := by
  obtain ⟨⟨z, h1, h2⟩, h3, h4, h5⟩ := h
  exact ⟨⟨z, keepB h1 k, own_below2 h2 k⟩, h3, fun f hf => (h4 f hf).keep (Kf.of k), h5⟩
theorem Kf.grown {w w' : World} {B n s : Nat} {v : Value} {xs : List Value} (h : w.ownsRow B 104 s v n xs) (k : w.grownBy w' v.ownBlock) : Kf w w' := ⟨k.size, fun b cur t e h1 _ => by
  rw [k.block b (ltB e) (fun q => by
    obtain ⟨_, cur2, hc⟩ := row_block h q.symm
    rw [e] at hc
    injection hc with hc
    injection hc with _ hc
    exact h1 hc)]
  exact e⟩
theorem Kf.house {w : World} {hb : Nat} {v : Value} (h : w.heap[hb]? = some (.cells #[v] 96)) (x : Value) : Kf w (w.setCell ⟨hb, 0, none⟩ x) := ⟨by simp, fun b cur t e _ h2 => by
  rw [heap_setCell_other _ _ _ _ (fun q => by
    have q : b = hb := q
    rw [q, h] at e
    injection e with e
    injection e with _ e
    exact h2 e.symm)]
  exact e⟩
/-- whether an instrument can be fitted. -/
def fitE (X : List Fg) (t : Tl) : Int := if t.nm.toList.isEmpty = true ∨ ∃ f ∈ X, nb f.t.nm = nb t.nm then 10 else if ¬ (1 ≤ t.kd ∧ t.kd ≤ 4) then 5 else if 12 ≤ X.length then 2 else 0
def FtPost (a : Nat → Addr) (B hb : Nat) (X : List Fg) (t : Tl) (w : World) (e : Ending) (w' : World) : Prop :=
  (∃ E, e = .returned E ∧ ErrIs a (fitE X t) E) ∧ Kf w w' ∧ Below B w w' ∧ (fitE X t ≠ 0 → Hs w' B hb X) ∧ (fitE X t = 0 → ∃ X' f, f.t = t ∧ X'.Perm (f :: X) ∧ Hs w' B hb X')
set_option maxRecDepth 1000000 in
set_option maxHeartbeats 6400000 in
theorem pfit_any {a : Nat → Addr} {w : World} {B hb : Nat} {X : List Fg} {t : Tl} {v : Value} (hS : Sents w a) (hH : Hs w B hb X) (hX : X.length ≤ 12) (hv : InsR w B t v) (hBw : B ≤ w.heap.size) :
    Calls Tryd.prog 20 #[.pointer (some ⟨hb, 0, none⟩), .string t.nm, v] w (FtPost a B hb X t w) := by
  obtain ⟨rv, hhb, hrow⟩ := hH.row
  obtain ⟨ad, cap, rfl, hca⟩ := fg_own hrow
  have hpl := pplace_any hhb hca hH.ord (by omega) t.nm
  unfold PlPost at hpl
  obtain ⟨em, hem⟩ : ∃ em, t.nm.toList.isEmpty = em := ⟨_, rfl⟩
  have hem2 : (t.nm.toList == []) = em := by rw [← hem]; cases t.nm.toList <;> rfl
  have HS : HeldR (∀ u, Below w.heap.size w u → Sents u a) := hideR (fun u k => hS.below k (Nat.le_refl _))
  have hmd := fun u => pmade_any hv u
  have HE : HeldR (∀ E u, fitE X t = E → E ≠ 0 → Below w.heap.size w u → ∀ V, ErrIs a E V → FtPost a B hb X t w (.returned V) u) := hideR (fun E u e h0 hb2 V hV => by
    subst e
    exact ⟨⟨V, rfl, hV⟩, Kf.of hb2, hb2.mono hBw, fun _ => hH.below hb2, fun q => absurd q h0⟩)
  have HO := hideR hH
  have HR := hideR hrow
  have HI := hideR hv
  have HA : HeldR (∀ k, IsPl X t.nm k → (atP X t.nm k = true ↔ ∃ f ∈ X, nb f.t.nm = nb t.nm)) := hideR (fun k hk => atP_iff hH.ord hk)
  have HHb := hideR hhb
  clear hS hH hrow hca hv hhb
  have hc0 := (cells_at (unhideR HHb) 0 (by simp)).1
  clear hc0
  obtain ⟨POST, hPOST⟩ : ∃ POST, POST = FtPost a B hb X t w := ⟨_, rfl⟩
  rw [← hPOST] at HE ⊢
  have HPO := hideR hPOST
  clear hPOST
  go_enter Tryd.func20, Tryd.ntmps20
  go_wp2_with fail
  refine hpl.mono ?_
  rintro e u1 ⟨⟨k, rfl, hk⟩, k1⟩
  have hai := unhideR HA k hk
  clear hpl HA
  obtain ⟨ap, hap⟩ : ∃ ap, atP X t.nm k = ap := ⟨_, rfl⟩
  rw [hap] at hai ⊢
  by_cases qn : em = true ∨ ap = true
  · have he : fitE X t = 10 := by
      unfold fitE
      rw [if_pos (by rcases qn with q | q; exact .inl (by rw [hem, q]); exact .inr (hai.1 q))]
    have s9 := (unhideR HS u1 k1).g9
    have HQ := hideR (unhideR HE 10 u1 he (by decide) k1 _ (.inr ⟨9, by decide, rfl, rfl⟩))
    clear HE HO HR HI HHb HS hk hai hmd
    cases em
    · have q : ap = true := by simpa using qn
      subst q
      go_wp2
      exact unhideR HQ
    · go_wp2
      exact unhideR HQ
  have e1 : em = false := by cases em; rfl; exact absurd (.inl rfl) qn
  have e2 : ap = false := by cases ap; rfl; exact absurd (.inr rfl) qn
  subst e1 e2
  have hno : ¬ (t.nm.toList.isEmpty = true ∨ ∃ f ∈ X, nb f.t.nm = nb t.nm) := fun h => by
    rcases h with h | h
    · rw [hem] at h; cases h
    · have := hai.2 h; cases this
  clear qn hai
  obtain ⟨mb, hmb⟩ : ∃ mb, decide (1 ≤ t.kd ∧ t.kd ≤ 4) = mb := ⟨_, rfl⟩
  rw [hmb] at hmd
  go_wp2_with fail
  refine (hmd u1).mono ?_
  rintro e u2 ⟨rfl, rfl⟩
  clear hmd
  cases mb
  · have he : fitE X t = 5 := by
      unfold fitE
      rw [if_neg hno, if_pos (of_decide_eq_false hmb)]
    have s4 := (unhideR HS u2 k1).g4
    have HQ := hideR (unhideR HE 5 u2 he (by decide) k1 _ (.inr ⟨4, by decide, rfl, rfl⟩))
    clear HE HO HR HI HHb HS hk hno
    go_wp2
    exact unhideR HQ
  have hkd := of_decide_eq_true hmb
  have hHb2 := keepB (unhideR HHb) k1
  have c0 := (cells_at hHb2 0 (by simp)).1
  have f0 := (cells_at hHb2 0 (by simp)).2
  by_cases q12 : 12 ≤ X.length
  · have he : fitE X t = 2 := by
      unfold fitE
      rw [if_neg hno, if_neg (by simpa using hkd), if_pos q12]
    have s1 := (unhideR HS u2 k1).g1
    have HQ := hideR (unhideR HE 2 u2 he (by decide) k1 _ (.inr ⟨1, by decide, rfl, rfl⟩))
    have t12 : decide ((12 : Int) ≤ (X.length : Int)) = true := decide_eq_true (by omega)
    have t12n : decide (12 ≤ X.length) = true := decide_eq_true q12
    clear HE HO HR HI HHb HS hk hno
    generalize X.length = n at *
    go_wp2
    exact unhideR HQ
  have he : fitE X t = 0 := by
    unfold fitE
    rw [if_neg hno, if_neg (by simpa using hkd), if_neg q12]
  obtain ⟨ty, pv, rfl⟩ : ∃ ty pv, v = .iface ty pv := by
    rcases unhideR HI with ⟨_, _, _, e, _⟩ | ⟨_, _, _, e, _⟩ | ⟨_, e⟩ | ⟨_, _, _, e, _⟩ | ⟨h, _⟩
    · exact ⟨_, _, e⟩
    · exact ⟨_, _, e⟩
    · exact ⟨_, _, e⟩
    · exact ⟨_, _, e⟩
    · omega
  have t12 : decide ((12 : Int) ≤ (X.length : Int)) = false := decide_eq_false (by omega)
  have t12n : decide (12 ≤ X.length) = false := decide_eq_false q12
  obtain ⟨W, hW⟩ : ∃ W, u2.alloc (.cells #[.string t.nm, .iface ty pv] 104) = W := ⟨_, rfl⟩
  have hz := alloc_last u2 (.cells #[.string t.nm, .iface ty pv] 104)
  have hbW := below_a u2 (.cells #[.string t.nm, .iface ty pv] 104)
  rw [hW] at hz hbW
  have hrW := own_below2 (own_below2 (unhideR HR) k1) hbW
  have hpi := pins_any (f := ⟨t, ty, pv⟩) hrW (by omega) (Nat.le_trans hBw (Nat.le_trans k1.size hbW.size)) hz (fun q => by
    have := (own_below2 (unhideR HR) k1).lt _ q
    omega) hk.1
  unfold InPost at hpi
  have HK : HeldR (IsPl X t.nm k ∧ atP X t.nm k = false) := hideR ⟨hk, hap⟩
  have Hz := hideR hz
  have HbW := hideR hbW
  have HrW := hideR hrW
  have Hk1 := hideR k1
  have He := hideR he
  have HHW := hideR (keepB hHb2 hbW)
  clear HE HS hno hkd hk hap he hz hbW hrW k1 HHb hem hHb2
  obtain ⟨n, hn⟩ : ∃ n, X.length = n := ⟨_, rfl⟩
  have Hn := hideR hn
  rw [hn] at c0 hpi t12 t12n HHW HrW q12 hX
  clear hn
  go_wp2_with fail
  refine hpi.mono ?_
  rintro e u3 ⟨⟨v', rfl, ho⟩, hgr⟩
  obtain ⟨a3, c3, rfl⟩ := ownsRow_slice ho
  clear hpi c0 f0
  have hnb : some hb ≠ (Value.slice ad n cap).ownBlock := fun q => by
    obtain ⟨_, cur, hc⟩ := row_block (unhideR HrW) q.symm
    rw [unhideR HHW] at hc
    injection hc with hc
    injection hc with _ hc
    exact absurd hc (by decide)
  have hh3 : u3.heap[hb]? = some (.cells #[.slice ad n cap] 96) := (hgr.block hb (ltB (unhideR HHW)) hnb).trans (unhideR HHW)
  have d0 := (cells_at hh3 0 (by simp)).1
  have g0 := (cells_at hh3 0 (by simp)).2
  have HQ : HeldR (POST (.returned .nilIface) (u3.setCell ⟨hb, 0, none⟩ (.slice a3 (n + 1) c3))) := hideR (by
    have hO := unhideR HO
    have k2 := Kf.trans (Kf.of (unhideR Hk1)) (Kf.trans (Kf.of (unhideR HbW)) (Kf.trans (Kf.grown (unhideR HrW) hgr) (Kf.house hh3 (.slice a3 (n + 1) c3))))
    have hlen : (insF X k ⟨t, ty, pv⟩).length = n + 1 := by rw [insF_len X (unhideR HK).1.1, unhideR Hn]
    rw [unhideR HPO]
    refine ⟨⟨_, rfl, .inl ⟨unhideR He, rfl⟩⟩, k2, ?_, fun q => absurd (unhideR He) q, fun _ => ⟨insF X k ⟨t, ty, pv⟩, ⟨t, ty, pv⟩, rfl, ins_perm X k _, ⟨⟨.slice a3 (n + 1) c3, ?_, ?_⟩, ord_ins hO.ord (unhideR HK).1 (unhideR HK).2, fun f hf => ?_, hO.hB⟩⟩⟩
    · have b1 : Below B w W := ((unhideR Hk1).mono hBw).trans ((unhideR HbW).mono (Nat.le_trans hBw (unhideR Hk1).size))
      exact (b1.grown hgr (Nat.le_trans hBw (Nat.le_trans (unhideR Hk1).size (unhideR HbW).size)) (fun j e => (row_block (unhideR HrW) e).1)).setCell (p := ⟨hb, 0, none⟩) hO.hB _
    · exact (heap_setCell_same u3 hb 0 _ _ _ hh3)
    · rw [hlen]
      exact row_keep ho (fun j hj => heap_setCell_other _ _ _ _ (fun q => by
        have q : j = hb := q
        obtain ⟨_, cur, hc⟩ := row_block ho hj
        rw [q, hh3] at hc
        injection hc with hc
        injection hc with _ hc
        exact absurd hc (by decide)))
    · rcases List.mem_cons.1 ((ins_perm X k ⟨t, ty, pv⟩).mem_iff.1 hf) with rfl | hf
      · exact (unhideR HI).keep k2
      · exact (hO.ins f hf).keep k2)
  clear ho hgr hnb hh3 HO HR HI HK Hz HbW HrW Hk1 He HHW HPO
  go_wp2
  exact unhideR HQ
end Go.Proofs.YtoacdaemhcbbhaaDoor
