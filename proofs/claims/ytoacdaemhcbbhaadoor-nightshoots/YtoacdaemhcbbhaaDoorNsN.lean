/-
  What the law keeps beside a house: pure; the law's sameInts, by contract.
-/
import Derived.Test.YtoacdaemhcbbhaaDoorNsM
namespace Go.Proofs.YtoacdaemhcbbhaaDoor
open Go Go.RowKit

theorem eqN_nb (x y : ByteArray) : eqN x y = true ↔ nb x = nb y := by
  unfold eqN
  rw [beq_iff_eq, ByteArray.toList_eq, ByteArray.toList_eq]
/-- what the law says of one tool more. -/
def eT (F : List TT) (t : Tl) : Int := if t.nm.toList.isEmpty = true then 10 else if ∃ k, k < F.length ∧ eqN (F.getD k tt0).1.nm t.nm = true then 10 else if t.kd < 1 ∨ 4 < t.kd then 5 else if F.length = 12 then 2 else 0
/-- the tools of a house. -/
def Rel (X : List Fg) (F : List TT) : Prop := (X.map (·.t)).Perm (F.map (·.1))
theorem Rel.len {X : List Fg} {F : List TT} (h : Rel X F) : X.length = F.length := by
  have := h.length_eq
  rwa [List.length_map, List.length_map] at this
theorem Rel.has {X : List Fg} {F : List TT} (h : Rel X F) (q : Tl → Prop) : (∃ f ∈ X, q f.t) ↔ ∃ x ∈ F, q x.1 := by
  constructor
  · rintro ⟨f, hf, hq⟩
    obtain ⟨x, hx, e⟩ := List.mem_map.1 (h.mem_iff.1 (List.mem_map.2 ⟨f, hf, rfl⟩))
    exact ⟨x, hx, by rw [e]; exact hq⟩
  · rintro ⟨x, hx, hq⟩
    obtain ⟨f, hf, e⟩ := List.mem_map.1 (h.mem_iff.2 (List.mem_map.2 ⟨x, hx, rfl⟩))
    exact ⟨f, hf, by rw [e]; exact hq⟩
theorem tt_mem {F : List TT} {k : Nat} (h : k < F.length) : F.getD k tt0 ∈ F := by
  rw [List.getD_eq_getElem?_getD, List.getElem?_eq_getElem h]
  exact List.getElem_mem _
theorem tt_get {F : List TT} {x : TT} (h : x ∈ F) : ∃ k, k < F.length ∧ F.getD k tt0 = x := by
  obtain ⟨k, hk, e⟩ := List.mem_iff_getElem.1 h
  exact ⟨k, hk, by rw [List.getD_eq_getElem?_getD, List.getElem?_eq_getElem hk]; exact e⟩
theorem fit_is {X : List Fg} {F : List TT} (h : Rel X F) (h12 : F.length ≤ 12) (t : Tl) : fitE X t = eT F t := by
  unfold fitE eT
  have e1 : (∃ f ∈ X, nb f.t.nm = nb t.nm) ↔ ∃ k, k < F.length ∧ eqN (F.getD k tt0).1.nm t.nm = true := by
    rw [h.has (fun s => nb s.nm = nb t.nm)]
    constructor
    · rintro ⟨x, hx, e⟩
      obtain ⟨k, hk, rfl⟩ := tt_get hx
      exact ⟨k, hk, (eqN_nb _ _).2 e⟩
    · rintro ⟨k, hk, e⟩
      exact ⟨_, tt_mem hk, (eqN_nb _ _).1 e⟩
  rw [h.len]
  by_cases q1 : t.nm.toList.isEmpty = true
  · rw [if_pos (.inl q1), if_pos q1]
  · rw [if_neg q1]
    by_cases q2 : ∃ k, k < F.length ∧ eqN (F.getD k tt0).1.nm t.nm = true
    · rw [if_pos (.inr (e1.2 q2)), if_pos q2]
    · rw [if_neg (fun z => z.elim q1 (fun y => q2 (e1.1 y))), if_neg q2]
      by_cases q3 : t.kd < 1 ∨ 4 < t.kd
      · rw [if_pos (by omega), if_pos q3]
      · rw [if_neg (by omega), if_neg q3]
        by_cases q4 : F.length = 12
        · rw [if_pos (by omega), if_pos q4]
        · rw [if_neg (by omega), if_neg q4]
theorem Rel.next {X X' : List Fg} {F : List TT} {f : Fg} {x : TT} (h : Rel X F) (hp : X'.Perm (f :: X)) (hf : f.t = x.1) : Rel X' (F ++ [x]) := by
  unfold Rel at h ⊢
  rw [List.map_append]
  refine (hp.map (·.t)).trans ?_
  rw [List.map_cons, hf]
  refine (List.Perm.cons _ h).trans ?_
  exact (List.perm_append_comm (l₁ := [x.1]) (l₂ := F.map (·.1)))
theorem any_is {X : List Fg} {F : List TT} (h : Rel X F) (a : Int) : X.any (fun f => wayV f.t a) = F.any (fun x => wayV x.1 a) := by
  rw [Bool.eq_iff_iff, List.any_eq_true, List.any_eq_true]
  exact h.has (fun s => wayV s a = true)
/-- the cameras, by their names. -/
def shL (F : List TT) : List TT := (F.filter fun x => decide (x.1.kd = 1)).foldl insT []
theorem shL_next {F : List TT} {k : Nat} (h : k < F.length) : shL (F.take (k + 1)) = if (F.getD k tt0).1.kd = 1 then insT (shL (F.take k)) (F.getD k tt0) else shL (F.take k) := by
  unfold shL
  rw [Tttake h, List.filter_append]
  generalize F.getD k tt0 = y
  by_cases q : y.1.kd = 1
  · rw [if_pos q]
    simp [q]
  · rw [if_neg q]
    simp [q]
theorem insT_perm (M : List TT) (s : TT) : (insT M s).Perm (s :: M) := by
  unfold insT
  refine List.perm_middle.trans ?_
  rw [List.takeWhile_append_dropWhile]
def leT (a b : TT) : Prop := nb a.1.nm ≤ nb b.1.nm
theorem tw_impT {p : TT → Bool} : ∀ (M : List TT) {a : TT}, a ∈ M.takeWhile p → p a = true
  | [], _, h => by cases h
  | b :: M, a, h => by
    rw [List.takeWhile_cons] at h
    split at h
    · rename_i hb
      rcases List.mem_cons.1 h with rfl | h
      · exact hb
      · exact tw_impT M h
    · cases h
theorem insT_sorted {M : List TT} (h : M.Pairwise leT) (s : TT) : (insT M s).Pairwise leT := by
  unfold insT
  have hd := List.takeWhile_append_dropWhile (p := fun a => lesB a.1.nm s.1.nm) (l := M)
  have h' := h
  rw [← hd] at h'
  obtain ⟨p1, p2, p3⟩ := List.pairwise_append.1 h'
  have low : ∀ a ∈ M.takeWhile (fun a => lesB a.1.nm s.1.nm), leT a s := by
    intro a ha
    have := tw_impT M ha
    rw [les_is, decide_eq_true_eq] at this
    exact List.le_of_lt this
  have hi : ∀ a ∈ M.dropWhile (fun a => lesB a.1.nm s.1.nm), leT s a := by
    intro a ha
    cases hq : M.dropWhile (fun a => lesB a.1.nm s.1.nm) with
    | nil => rw [hq] at ha; cases ha
    | cons b l =>
      have hb : lesB b.1.nm s.1.nm = false := by
        have := List.head_dropWhile_not (p := fun a => lesB a.1.nm s.1.nm) (l := M) (by rw [hq]; simp)
        simpa [hq] using this
      have hbs : leT s b := by
        rw [les_is, decide_eq_false_iff_not] at hb
        exact List.not_lt.1 hb
      rw [hq] at ha p2
      rcases List.mem_cons.1 ha with rfl | ha
      · exact hbs
      · exact List.le_trans hbs ((List.pairwise_cons.1 p2).1 a ha)
  refine List.pairwise_append.2 ⟨p1, List.pairwise_cons.2 ⟨hi, p2⟩, fun a ha b hb => ?_⟩
  rcases List.mem_cons.1 hb with rfl | hb
  · exact low a ha
  · exact p3 a ha b hb
theorem fold_perm : ∀ (L M : List TT), (L.foldl insT M).Perm (L ++ M)
  | [], _M => List.Perm.refl _
  | x :: L, M => (fold_perm L (insT M x)).trans (((insT_perm M x).append_left L).trans (List.perm_middle))
theorem fold_sorted : ∀ (L M : List TT), M.Pairwise leT → (L.foldl insT M).Pairwise leT
  | [], _, h => h
  | x :: L, _, h => fold_sorted L _ (insT_sorted h x)
theorem shL_perm (F : List TT) : (shL F).Perm (F.filter fun x => decide (x.1.kd = 1)) := by
  have := fold_perm (F.filter fun x => decide (x.1.kd = 1)) []
  rwa [List.append_nil] at this
theorem shL_len (F : List TT) : (shL F).length ≤ F.length := by
  rw [(shL_perm F).length_eq]
  exact List.length_filter_le _ _
theorem cams_are {X : List Fg} {F : List TT} (hO : Ord X) (h : Rel X F) : (shL F).map (·.1) = camL X := by
  have hp : ((shL F).map (·.1)).Perm (camL X) := by
    refine ((shL_perm F).map (·.1)).trans ?_
    unfold camL
    have e : (F.filter fun x => decide (x.1.kd = 1)).map (·.1) = (F.map (·.1)).filter fun t => decide (t.kd = 1) := by
      rw [List.filter_map]
      rfl
    rw [e]
    exact (h.symm).filter _
  have hs : (camL X).Pairwise fun a b => nb a.nm < nb b.nm := by
    unfold camL
    refine List.Pairwise.filter _ ?_
    exact List.pairwise_map.2 hO
  refine List.Perm.eq_of_pairwise (le := fun a b => nb a.nm ≤ nb b.nm) (fun a b ha hb h1 h2 => ?_) ?_ (hs.imp (fun h => List.le_of_lt h)) hp
  · have ha' := hp.mem_iff.1 ha
    obtain ⟨i, hi, rfl⟩ := List.mem_iff_getElem.1 ha'
    obtain ⟨j, hj, rfl⟩ := List.mem_iff_getElem.1 hb
    have e : nb (camL X)[i].nm = nb (camL X)[j].nm := List.le_antisymm h1 h2
    rcases Nat.lt_trichotomy i j with q | q | q
    · have := List.pairwise_iff_getElem.1 hs i j hi hj q
      rw [e] at this
      exact absurd this (List.lt_irrefl _)
    · subst q; rfl
    · have := List.pairwise_iff_getElem.1 hs j i hj hi q
      rw [e] at this
      exact absurd this (List.lt_irrefl _)
  · exact List.pairwise_map.2 (fold_sorted _ _ List.Pairwise.nil)
set_option maxRecDepth 100000 in
set_option maxHeartbeats 1600000 in
theorem sameInts_any {w : World} {c1 c2 : Nat} {ad1 ad2 : Option Addr} {A : List Int} (h1 : ICame w ad1 A) (h2 : ICame w ad2 A) (hl : A.length ≤ 9223372036854775806) :
    Calls Tryd.prog 24 #[.slice ad1 A.length c1, .slice ad2 A.length c2] w fun e w' => e = .returned (.bool true) ∧ Below w.heap.size w w' := by
  have H1 := hideR h1
  have H2 := hideR h2
  have t0 : ((A.length : Int) != (A.length : Int)) = false := by simp
  clear h1 h2
  go_enter Tryd.func24, Tryd.ntmps24
  go_wp2
  go_loopw [5] (fun kv wl => ∃ k : Nat, k ≤ A.length ∧ kv = .int .i64 (k : Nat) ∧ HeldR (Below w.heap.size w wl)) (fun kv _ => A.length + 1 - (intOf kv).toNat)
  case atStart => exact ⟨0, by omega, rfl, hideR (Below.refl _ _)⟩
  case round =>
    obtain ⟨k, hk, rfl, HW⟩ := hrel
    by_cases hlt : k < A.length
    · obtain ⟨b1, o1, rfl, _, x1⟩ := ((unhideR H1).below (unhideR HW)).at_ k hlt
      obtain ⟨b2, o2, rfl, _, x2⟩ := ((unhideR H2).below (unhideR HW)).at_ k hlt
      generalize A.getD k 0 = x at x1 x2
      have t1 : (x != x) = false := by simp
      go_wp2_with fail
      refine wp_region_lets [(· = .slice (some ⟨b1, o1, none⟩) A.length c1),
        (· = .int .i64 (k : Nat)),
        (· = .pointer (some ⟨b1, o1 + k, none⟩)),
        (· = .int .i64 x),
        (· = .slice (some ⟨b2, o2, none⟩) A.length c2),
        (· = .int .i64 (k : Nat)),
        (· = .pointer (some ⟨b2, o2 + k, none⟩)),
        (· = .int .i64 x),
        (· = .bool false)] (by kernel_rfl) (by kernel_rfl) ?_
      refine lexL_step (fun K hK => ⟨by kernel_rfl, ⟨_, rfl⟩, fun n => ?_, fun v hv => ?_⟩)
      · go_simp
        exact lUpon_one
      subst hv
      go_simp
      refine hK _ ?_
      clear hK K
      refine lexL_step (fun K hK => ⟨by kernel_rfl, ⟨_, rfl⟩, fun n => ?_, fun v hv => ?_⟩)
      · go_simp
        exact lUpon_one
      subst hv
      go_simp
      refine hK _ ?_
      clear hK K
      refine lexL_step (fun K hK => ⟨by kernel_rfl, ⟨_, rfl⟩, fun n => ?_, fun v hv => ?_⟩)
      · go_simp
        exact lUpon_one
      subst hv
      go_simp
      refine hK _ ?_
      clear hK K
      refine lexL_step (fun K hK => ⟨by kernel_rfl, ⟨_, rfl⟩, fun n => ?_, fun v hv => ?_⟩)
      · go_simp
        exact lUpon_one
      subst hv
      go_simp
      refine hK _ ?_
      clear hK K
      refine lexL_step (fun K hK => ⟨by kernel_rfl, ⟨_, rfl⟩, fun n => ?_, fun v hv => ?_⟩)
      · go_simp
        exact lUpon_one
      subst hv
      go_simp
      refine hK _ ?_
      clear hK K
      refine lexL_step (fun K hK => ⟨by kernel_rfl, ⟨_, rfl⟩, fun n => ?_, fun v hv => ?_⟩)
      · go_simp
        exact lUpon_one
      subst hv
      go_simp
      refine hK _ ?_
      clear hK K
      refine lexL_step (fun K hK => ⟨by kernel_rfl, ⟨_, rfl⟩, fun n => ?_, fun v hv => ?_⟩)
      · go_simp
        exact lUpon_one
      subst hv
      go_simp
      refine hK _ ?_
      clear hK K
      refine lexL_step (fun K hK => ⟨by kernel_rfl, ⟨_, rfl⟩, fun n => ?_, fun v hv => ?_⟩)
      · go_simp
        exact lUpon_one
      subst hv
      go_simp
      refine hK _ ?_
      clear hK K
      refine lexL_step (fun K hK => ⟨by kernel_rfl, ⟨_, rfl⟩, fun n => ?_, fun v hv => ?_⟩)
      · go_simp
        exact lUpon_one
      subst hv
      go_simp
      refine hK _ ?_
      clear hK K
      refine lexL_end ?_
      intro n9
      replace HW := hideR (below_go (unhideR HW) (drawn_below wr n9))
      clear x1 x2
      go_wp2
      exact ⟨⟨k + 1, by omega, by go_num, HW⟩, by simp [intOf]; omega⟩
    · obtain rfl : k = A.length := by omega
      go_wp2
      go_ret
      exact ⟨rfl, unhideR HW⟩
end Go.Proofs.YtoacdaemhcbbhaaDoor
