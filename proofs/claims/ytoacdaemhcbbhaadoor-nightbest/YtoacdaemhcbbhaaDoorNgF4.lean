/-
  Whether jobs are right: the program's Valid, by contract.
-/
import Derived.Test.YtoacdaemhcbbhaaDoorNgF3
import Derived.Test.YtoacdaemhcbbhaaDoorKitA
namespace Go.Proofs.YtoacdaemhcbbhaaDoor
open Go Go.RowKit

def fstV (P : Nat → Bool) : Nat → Int
  | 0 => -1
  | n + 1 => if 0 ≤ fstV P n then fstV P n else if P n then (n : Nat) else -1
theorem fst_is (P : Nat → Bool) : ∀ n, IsFst P n (fstV P n)
  | 0 => .inl ⟨rfl, fun k hk => absurd hk (Nat.not_lt_zero k)⟩
  | n + 1 => by
    show IsFst P (n + 1) (if 0 ≤ fstV P n then fstV P n else if P n then (n : Nat) else -1)
    rcases fst_is P n with ⟨e, h⟩ | ⟨k, h1, e, h2, h3⟩
    · rw [e, if_neg (by decide)]
      cases q : P n
      · exact .inl ⟨rfl, fun k hk => by
          by_cases z : k = n
          · subst z; exact q
          · exact h k (by omega)⟩
      · exact .inr ⟨n, by omega, rfl, q, h⟩
    · rw [e, if_pos (by omega)]
      exact .inr ⟨k, by omega, rfl, h2, h3⟩
theorem IsFst.eq {P : Nat → Bool} {n : Nat} {r : Int} (h : IsFst P n r) : r = fstV P n := by
  rcases h with ⟨rfl, h⟩ | ⟨k, h1, rfl, h2, h3⟩
  · rcases fst_is P n with ⟨e, _⟩ | ⟨k, h1, e, h2, _⟩
    · exact e.symm
    · rw [h k h1] at h2; cases h2
  · rcases fst_is P n with ⟨_, g⟩ | ⟨j, g1, e, g2, g3⟩
    · rw [g k h1] at h2; cases h2
    · rw [e]
      rcases Nat.lt_trichotomy k j with q | q | q
      · rw [g3 k q] at h2; cases h2
      · rw [q]
      · rw [h3 j q] at g2; cases g2
def VlPost (a : Nat → Addr) (l : List Jb) (w : World) (e : Ending) (w' : World) : Prop := (∃ E, e = .returned E ∧ ErrIs a (joE l) E) ∧ Below w.heap.size w w'
set_option maxRecDepth 1000000 in
set_option maxHeartbeats 6400000 in
theorem pvalid_any {a : Nat → Addr} {w : World} {ad : Option Addr} {cap : Nat} {l : List Jb} (hS : Sents w a) (hl : JbCame w ad l) (hc : l.length ≤ cap) (hn : l.length ≤ 4000) (hw : ∀ k, k < l.length → (l.getD k jb0).ws.length * 16 ≤ 140737488355328) :
    Calls Tryd.prog 12 #[.slice ad l.length cap] w (VlPost a l w) := by
  have HSu : HeldR (∀ u, Below w.heap.size w u → Sents u a) := hideR (fun u g => hS.below g (Nat.le_refl _))
  have HL : HeldR (∀ u, Below w.heap.size w u → JbCame u ad l) := hideR (fun u q => hl.below q)
  have hcon := fun u (hu : Below w.heap.size w u) => pconJ_any (cap := cap) (hl.below hu) hn (fn := 32) (caps := #[]) (P := fun k => shX (l.getD k jb0)) (enters_of Tryd.func32 (by kernel_rfl) rfl)
    (fun k hk v hv b2 d2 hb2 => by
      have := pmis_any (c2 := d2) (hS.below (below_go hu hv) (Nat.le_refl _)) hb2 (hw k hk)
      simpa using this)
  have HE2 : HeldR (12 < l.length → joE l = 2) := hideR (fun h => by unfold joE; rw [if_pos h])
  have HE10 : HeldR (¬ 12 < l.length → ∀ i, i < l.length → nmX l i = true → joE l = 10) := hideR (fun h i h1 h2 => by unfold joE; rw [if_neg h, if_pos ⟨i, h1, h2⟩])
  have HE5 : HeldR (¬ 12 < l.length → (∀ i, i < l.length → nmX l i = false) → joE l = if anyN (fun k => shX (l.getD k jb0)) l.length then 5 else 0) := hideR (fun h h0 => by
    unfold joE
    rw [if_neg h, if_neg (fun ⟨j, h3, h4⟩ => by rw [h0 j h3] at h4; cases h4)]
    by_cases q : ∃ i, i < l.length ∧ shX (l.getD i jb0) = true
    · rw [if_pos q, if_pos (anyN_iff.2 q)]
    · rw [if_neg q, if_neg (fun z => q (anyN_iff.1 z))])
  have HP : HeldR (∀ E v w', joE l = E → ErrIs a E v → Below w.heap.size w w' → VlPost a l w (.returned v) w') := hideR (fun E v w' e h1 h2 => by subst e; exact ⟨⟨v, rfl, h1⟩, h2⟩)
  have HNx : HeldR (∀ i, i < l.length → nmX l i = ((l.getD i jb0).nm.toList.isEmpty || decide (0 ≤ fstV (nmP (l.take i) (l.getD i jb0).nm) i))) := hideR (fun i hi => nmX_is l i (by omega) (fst_is _ _))
  generalize VlPost a l w = POST at *
  have sw := unhideR HSu w (Below.refl _ _)
  have s1 := sw.g1
  obtain ⟨n, hn0⟩ : ∃ n, l.length = n := ⟨_, rfl⟩
  have Hn := hideR hn0
  rw [hn0] at hc hn hcon HE2 HE10 HE5 HNx ⊢
  clear hl hw hS sw hn0
  by_cases q12 : 12 < n
  · have t0 : decide ((12 : Int) < (n : Int)) = true := decide_eq_true (by omega)
    have HQ := hideR (unhideR HP 2 _ w (unhideR HE2 q12) (.inr ⟨1, by decide, rfl, rfl⟩) (Below.refl _ _))
    clear HE2 HE10 HE5 HL hcon HNx HP
    go_enter Tryd.func12, Tryd.ntmps12
    go_wp2
    exact unhideR HQ
  have t0 : decide ((12 : Int) < (n : Int)) = false := decide_eq_false (by omega)
  replace HE10 := hideR (unhideR HE10 q12)
  replace HE5 := hideR (unhideR HE5 q12)
  clear HE2 s1
  go_enter Tryd.func12, Tryd.ntmps12
  go_wp2
  go_loopw [11] (fun iv wl => ∃ i : Nat, i ≤ n ∧ iv = .int .i64 (i : Nat) ∧ HeldR (∀ k, k < i → nmX l k = false) ∧ HeldR (Below w.heap.size w wl)) (fun iv _ => n + 1 - (intOf iv).toNat)
  case atStart => exact ⟨0, by omega, rfl, hideR (fun k hk => absurd hk (Nat.not_lt_zero k)), hideR (Below.refl _ _)⟩
  case round =>
    obtain ⟨i, hi, rfl, HA, HB⟩ := hrel
    by_cases q : i < n
    case neg =>
      obtain rfl : i = n := by omega
      have ti : decide ((i : Int) < (i : Int)) = false := decide_eq_false (by omega)
      have tin : decide (i < i) = false := decide_eq_false (by omega)
      have hco := hcon wr (unhideR HB)
      have HE := hideR (unhideR HE5 (unhideR HA))
      clear HE10 HE5 HA hcon HNx HL
      generalize anyN (fun k => shX (l.getD k jb0)) i = A at *
      go_wp2_with fail
      refine hco.mono ?_
      rintro e u ⟨rfl, k⟩
      replace HB := hideR (below_go (unhideR HB) k)
      have s4 := (unhideR HSu u (unhideR HB)).g4
      clear hco k
      cases A
      · have HQ := hideR (unhideR HP 0 .nilIface u (by rw [unhideR HE, if_neg (by decide)]) (.inl ⟨rfl, rfl⟩) (unhideR HB))
        clear HE HB HP HSu s4
        go_wp2
        exact unhideR HQ
      · have HQ := hideR (unhideR HP 5 _ u (by rw [unhideR HE, if_pos rfl]) (.inr ⟨4, by decide, rfl, rfl⟩) (unhideR HB))
        clear HE HB HP HSu
        go_wp2
        exact unhideR HQ
    have ti : decide ((i : Int) < (n : Int)) = true := decide_eq_true (by omega)
    have tin : decide (i < n) = true := decide_eq_true q
    have wi : IntKind.i64.wrap ((i : Int) + 1) = (i : Int) + 1 := iwrap (by omega) (by omega)
    have hii : (i : Int) < (n : Int) := by omega
    have hic : i ≤ cap := by omega
    obtain ⟨bb, off, had, hbb, hJ⟩ := (unhideR HL wr (unhideR HB)).at_ i (by rw [unhideR Hn]; exact q)
    subst had
    obtain ⟨a2, c2, hj1, hs2⟩ := hJ.c1
    have hj0 := hJ.c0
    have hj2 := hJ.c2
    have hj3 := hJ.c3
    have HX := hideR (unhideR HNx i q)
    have hnum := fun v (hv : Below w.heap.size w v) => pnum_any (cap := cap) ((unhideR HL v hv).take i) (by rw [List.length_take]; omega) (l.getD i jb0).nm
    have hti : (l.take i).length = i := by rw [List.length_take, unhideR Hn]; omega
    rw [hti] at hnum
    obtain ⟨xi, hxi⟩ : ∃ xi, (l.getD i jb0).nm = xi := ⟨_, rfl⟩
    rw [hxi] at hj0 HX hnum
    generalize l.getD i jb0 = j at *
    obtain ⟨fv, hfv⟩ : ∃ fv, fstV (nmP (l.take i) xi) i = fv := ⟨_, rfl⟩
    have Hfv := hideR hfv
    rw [hfv] at HX
    clear hJ hs2 hxi hti hfv HNx
    have HZ := hideR (alloc_last wr (.cells #[.string xi, .slice a2 j.ws.length c2, .int .i64 j.lo, .int .i64 j.wo] 72))
    have HB1 := hideR ((unhideR HB).alloc (unhideR HB).size (.cells #[.string xi, .slice a2 j.ws.length c2, .int .i64 j.lo, .int .i64 j.wo] 72))
    go_upto_region 6 with fail
    generalize wr.alloc (.cells #[.string xi, .slice a2 j.ws.length c2, .int .i64 j.lo, .int .i64 j.wo] 72) = u0 at *
    obtain ⟨Z, hZ⟩ : ∃ Z, wr.heap.size = Z := ⟨_, rfl⟩
    rw [hZ] at HZ ⊢
    clear hZ hj0 hj1 hj2 hj3
    have HY : HeldR (∀ v, Below u0.heap.size u0 v → v.cell? ⟨Z, 0, none⟩ = some (.string xi)) := hideR (fun v hv => (cells_at (keepB (unhideR HZ) hv) 0 (by simp)).1)
    have HG : HeldR (∀ v, Below u0.heap.size u0 v → Below w.heap.size w v) := hideR (fun v hv => below_go (unhideR HB1) hv)
    have hnu := fun v (hv : Below u0.heap.size u0 v) => (hnum v (unhideR HG v hv)).mono (fun e w' (h : (∃ r, e = .returned (.int .i64 r) ∧ IsFst (nmP (l.take i) xi) i r) ∧ Below v.heap.size v w') => (show e = .returned (.int .i64 fv) ∧ Below v.heap.size v w' from by
      obtain ⟨⟨r, rfl, hr⟩, k⟩ := h
      rw [hr.eq, unhideR Hfv]
      exact ⟨rfl, k⟩))
    clear hnum HB HZ
    have HFin : HeldR (nmX l i = false → ∀ v, Below u0.heap.size u0 v → (∀ k, k < i + 1 → nmX l k = false) ∧ Below w.heap.size w v) := hideR (fun h v hv => ⟨fun k hk => by
      by_cases e : k = i
      · subst e; exact h
      · exact unhideR HA k (by omega), unhideR HG v hv⟩)
    have HErr : HeldR (nmX l i = true → ∀ v, Below u0.heap.size u0 v → POST (.returned (.iface 190 (.pointer (some (a 9))))) v ∧ Below w.heap.size w v) := hideR (fun h v hv => ⟨unhideR HP 10 _ v (unhideR HE10 i q h) (.inr ⟨9, by decide, rfl, rfl⟩) (unhideR HG v hv), unhideR HG v hv⟩)
    clear HE10 HE5 HA hcon HL HB1
    obtain ⟨em, hem⟩ : ∃ em, xi.toList.isEmpty = em := ⟨_, rfl⟩
    rw [hem] at HX
    have hem2 : (xi.toList == []) = em := by rw [← hem]; cases xi.toList <;> rfl
    cases em
    case true =>
      rw [Bool.true_or] at HX
      have HEr := hideR (unhideR HErr (unhideR HX))
      clear HErr HFin HX hnu HG
      refine wp_region_made 0 #[true, true, true, true, true, true, true, true, true, true, true, false] [.lets (· = .pointer (some ⟨Z, 0, none⟩)),
        .lets (· = .string xi),
        .lets (· = .bool true),
        .lets (· = .bool true),
        .lets (· = undef),
        .lets (· = undef),
        .lets (· = undef),
        .lets (· = undef),
        .lets (· = undef),
        .lets (· = undef),
        .lets (· = undef)] [] [] (by kernel_rfl) (by kernel_rfl) rfl ?kinds (by kernel_rfl) (by kernel_rfl) (by kernel_rfl) ?_
      case kinds =>
        constructor
        · intro i h
          rcases i with _ | _ | _ | _ | _ | _ | _ | _ | _ | _ | _ | i <;> simp [Kx.isMade] at h
        · intro i h
          rcases i with _ | _ | _ | _ | _ | _ | _ | _ | _ | _ | _ | i <;> simp [Kx.isUse] at h
      refine lexX_step (fun K hK => ⟨by kernel_rfl, ⟨_, rfl⟩, fun v hv => ?_, fun v hv => ?_⟩)
      · go_simp
        exact mUpon_b
      subst hv
      go_simp
      refine hK _ ?_
      clear hK K
      refine lexX_step (fun K hK => ⟨by kernel_rfl, ⟨_, rfl⟩, fun v hv => ?_, fun v hv => ?_⟩)
      · have y0 := unhideR HY v hv
        go_simp
        exact mUpon_b
      subst hv
      go_simp
      refine hK _ ?_
      clear hK K
      refine lexX_step (fun K hK => ⟨by kernel_rfl, ⟨_, rfl⟩, fun v hv => ?_, fun v hv => ?_⟩)
      · go_simp
        exact mUpon_b
      subst hv
      go_simp
      refine hK _ ?_
      clear hK K
      refine lexX_step (fun K hK => ⟨by kernel_rfl, ⟨_, rfl⟩, fun v hv => ?_, fun v hv => ?_⟩)
      · go_simp
        exact mUpon_b
      subst hv
      go_simp
      refine hK _ ?_
      clear hK K
      refine lexX_skip (fun K hK => ⟨by kernel_rfl, ?_⟩)
      go_simp
      refine hK _ ?_
      clear hK K
      refine lexX_skip (fun K hK => ⟨by kernel_rfl, ?_⟩)
      go_simp
      refine hK _ ?_
      clear hK K
      refine lexX_skip (fun K hK => ⟨by kernel_rfl, ?_⟩)
      go_simp
      refine hK _ ?_
      clear hK K
      refine lexX_skip (fun K hK => ⟨by kernel_rfl, ?_⟩)
      go_simp
      refine hK _ ?_
      clear hK K
      refine lexX_skip (fun K hK => ⟨by kernel_rfl, ?_⟩)
      go_simp
      refine hK _ ?_
      clear hK K
      refine lexX_skip (fun K hK => ⟨by kernel_rfl, ?_⟩)
      go_simp
      refine hK _ ?_
      clear hK K
      refine lexX_skip (fun K hK => ⟨by kernel_rfl, ?_⟩)
      go_simp
      refine hK _ ?_
      clear hK K
      refine lexX_end (fun v5 hv => ?_)
      obtain ⟨h5, h6⟩ := unhideR HEr v5 hv.low
      have s9 := (unhideR HSu v5 h6).g9
      have HQ := hideR h5
      clear hv HEr HY h5 h6
      refine wpAny_step (i := 11) (by kernel_rfl) rfl (by kernel_rfl) (fun K hK => ?_)
      unfold Oper.wp
      go_simp
      refine hK _ _ ?_
      clear hK K
      refine wpAny_end (by kernel_rfl) ?_
      go_wp2
      exact unhideR HQ
    rw [Bool.false_or] at HX
    obtain ⟨fb, hfb⟩ : ∃ fb, decide (0 ≤ fv) = fb := ⟨_, rfl⟩
    rw [hfb] at HX
    refine wp_region_made 0 #[true, true, true, true, true, true, true, true, true, true, true, false] [.lets (· = .pointer (some ⟨Z, 0, none⟩)),
      .lets (· = .string xi),
      .lets (· = .bool false),
      .lets (· = .bool false),
      .lets (· = .slice (some ⟨bb, off, none⟩) n cap),
      .lets (· = .int .i64 (i : Nat)),
      .lets (· = .slice (some ⟨bb, off, none⟩) i cap),
      .lets (· = .pointer (some ⟨Z, 0, none⟩)),
      .lets (· = .string xi),
      .lets (· = .int .i64 fv),
      .lets (· = .bool fb)] [] [] (by kernel_rfl) (by kernel_rfl) rfl ?kinds (by kernel_rfl) (by kernel_rfl) (by kernel_rfl) ?_
    case kinds =>
      constructor
      · intro i h
        rcases i with _ | _ | _ | _ | _ | _ | _ | _ | _ | _ | _ | i <;> simp [Kx.isMade] at h
      · intro i h
        rcases i with _ | _ | _ | _ | _ | _ | _ | _ | _ | _ | _ | i <;> simp [Kx.isUse] at h
    refine lexX_step (fun K hK => ⟨by kernel_rfl, ⟨_, rfl⟩, fun v hv => ?_, fun v hv => ?_⟩)
    · go_simp
      exact mUpon_b
    subst hv
    go_simp
    refine hK _ ?_
    clear hK K
    refine lexX_step (fun K hK => ⟨by kernel_rfl, ⟨_, rfl⟩, fun v hv => ?_, fun v hv => ?_⟩)
    · have y0 := unhideR HY v hv
      go_simp
      exact mUpon_b
    subst hv
    go_simp
    refine hK _ ?_
    clear hK K
    refine lexX_step (fun K hK => ⟨by kernel_rfl, ⟨_, rfl⟩, fun v hv => ?_, fun v hv => ?_⟩)
    · go_simp
      exact mUpon_b
    subst hv
    go_simp
    refine hK _ ?_
    clear hK K
    refine lexX_step (fun K hK => ⟨by kernel_rfl, ⟨_, rfl⟩, fun v hv => ?_, fun v hv => ?_⟩)
    · go_simp
      exact mUpon_b
    subst hv
    go_simp
    refine hK _ ?_
    clear hK K
    refine lexX_step (fun K hK => ⟨by kernel_rfl, ⟨_, rfl⟩, fun v hv => ?_, fun v hv => ?_⟩)
    · go_simp
      exact mUpon_b
    subst hv
    go_simp
    refine hK _ ?_
    clear hK K
    refine lexX_step (fun K hK => ⟨by kernel_rfl, ⟨_, rfl⟩, fun v hv => ?_, fun v hv => ?_⟩)
    · go_simp
      exact mUpon_b
    subst hv
    go_simp
    refine hK _ ?_
    clear hK K
    refine lexX_step (fun K hK => ⟨by kernel_rfl, ⟨_, rfl⟩, fun v hv => ?_, fun v hv => ?_⟩)
    · go_simp
      exact mUpon_b
    subst hv
    go_simp
    refine hK _ ?_
    clear hK K
    refine lexX_step (fun K hK => ⟨by kernel_rfl, ⟨_, rfl⟩, fun v hv => ?_, fun v hv => ?_⟩)
    · go_simp
      exact mUpon_b
    subst hv
    go_simp
    refine hK _ ?_
    clear hK K
    refine lexX_step (fun K hK => ⟨by kernel_rfl, ⟨_, rfl⟩, fun v hv => ?_, fun v hv => ?_⟩)
    · have y0 := unhideR HY v hv
      go_simp
      exact mUpon_b
    subst hv
    go_simp
    refine hK _ ?_
    clear hK K
    refine lexX_step (fun K hK => ⟨by kernel_rfl, ⟨_, rfl⟩, fun v hv => ?_, fun v hv => ?_⟩)
    · go_simp
      refine (hnu v hv).mono ?_
      rintro e w9 ⟨rfl, k⟩
      exact ⟨_, rfl, rfl, k⟩
    subst hv
    go_simp
    refine hK _ ?_
    clear hK K
    refine lexX_step (fun K hK => ⟨by kernel_rfl, ⟨_, rfl⟩, fun v hv => ?_, fun v hv => ?_⟩)
    · go_simp
      exact mUpon_b
    subst hv
    go_simp
    refine hK _ ?_
    clear hK K
    refine lexX_end (fun v5 hv => ?_)
    have HV := hideR hv.low
    clear hv HY hnu
    refine wpAny_step (i := 11) (by kernel_rfl) rfl (by kernel_rfl) (fun K hK => ?_)
    unfold Oper.wp
    go_simp
    refine hK _ _ ?_
    clear hK K
    refine wpAny_end (by kernel_rfl) ?_
    cases fb
    · obtain ⟨h5, h6⟩ := unhideR HFin (unhideR HX) v5 (unhideR HV)
      have H5 := hideR h5
      have H6 := hideR h6
      clear h5 h6 HFin HErr HX HV HG
      go_wp2
      exact ⟨⟨i + 1, by omega, by go_num, H5, H6⟩, by simp [intOf]; omega⟩
    · obtain ⟨h5, h6⟩ := unhideR HErr (unhideR HX) v5 (unhideR HV)
      have s9 := (unhideR HSu v5 h6).g9
      have HQ := hideR h5
      clear h5 h6 HFin HErr HX HV HG
      go_wp2
      exact unhideR HQ
end Go.Proofs.YtoacdaemhcbbhaaDoor
