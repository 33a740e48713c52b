/-
  An event is put into a list: the document's, by contract.
-/
import Derived.Test.YtlhjmmcimhceeagDoorEvRow
import Derived.WalkSpells
import Derived.Laws.AppendOwnNone
namespace Go.Proofs.YtlhjmmcimhceeagDoor
open Go Go.RowKit

theorem infoREv : (Tryd.prog.info? 74).map (fun i => (i.zero, i.size, i.bytes)) = some (some Evzv, 3, 24) := by kernel_rfl
theorem putV_split : ∀ (L : List Evt) (e : Evt) (i : Nat), i ≤ L.length → (∀ j, j < i → (L.getD j ev0).Ahead e) → (i < L.length → ¬ (L.getD i ev0).Ahead e) → putV L e = L.take i ++ e :: L.drop i
  | [], _, i, hi, _, _ => by
    obtain rfl : i = 0 := by simpa using hi
    rfl
  | x :: l, e, 0, _, _, h => by
    have : ¬ x.Ahead e := h (by simp)
    unfold putV
    rw [if_neg this]
    rfl
  | x :: l, e, i + 1, hi, h1, h2 => by
    have : x.Ahead e := h1 0 (by omega)
    unfold putV
    rw [if_pos this, putV_split l e i (by simpa using hi) (fun j hj => h1 (j + 1) (by omega)) (fun k => h2 (by simpa using k))]
    rfl
structure AhT (x e : Evt) : Prop where
  is : x.Ahead e
structure AhF (x e : Evt) : Prop where
  is : ¬ x.Ahead e
theorem ahead_cases (x e : Evt) : (AhT x e ∧ (decide (x.at_ < e.at_) = true ∨ (decide (x.at_ < e.at_) = false ∧ (x.at_ == e.at_) = true ∧ decide (x.ix < e.ix) = true) ∨ (decide (x.at_ < e.at_) = false ∧ (x.at_ == e.at_) = true ∧ decide (x.ix < e.ix) = false ∧ (x.ix == e.ix) = true ∧ decide (x.k < e.k) = true))) ∨
    (AhF x e ∧ ((decide (x.at_ < e.at_) = false ∧ (x.at_ == e.at_) = false) ∨ (decide (x.at_ < e.at_) = false ∧ (x.at_ == e.at_) = true ∧ decide (x.ix < e.ix) = false ∧ (x.ix == e.ix) = false) ∨ (decide (x.at_ < e.at_) = false ∧ (x.at_ == e.at_) = true ∧ decide (x.ix < e.ix) = false ∧ (x.ix == e.ix) = true ∧ decide (x.k < e.k) = false))) := by
  by_cases h1 : x.at_ < e.at_
  · exact .inl ⟨⟨.inl h1⟩, .inl (decide_eq_true h1)⟩
  · have b1 : decide (x.at_ < e.at_) = false := decide_eq_false h1
    by_cases h2 : x.at_ = e.at_
    · have b2 : (x.at_ == e.at_) = true := by simp [h2]
      by_cases h3 : x.ix < e.ix
      · exact .inl ⟨⟨.inr ⟨h2, .inl h3⟩⟩, .inr (.inl ⟨b1, b2, decide_eq_true h3⟩)⟩
      · have b3 : decide (x.ix < e.ix) = false := decide_eq_false h3
        by_cases h4 : x.ix = e.ix
        · have b4 : (x.ix == e.ix) = true := by simp [h4]
          by_cases h5 : x.k < e.k
          · exact .inl ⟨⟨.inr ⟨h2, .inr ⟨h4, h5⟩⟩⟩, .inr (.inr ⟨b1, b2, b3, b4, decide_eq_true h5⟩)⟩
          · refine .inr ⟨⟨?_⟩, .inr (.inr ⟨b1, b2, b3, b4, decide_eq_false h5⟩)⟩
            unfold Evt.Ahead
            omega
        · refine .inr ⟨⟨?_⟩, .inr (.inl ⟨b1, b2, b3, by simp [h4]⟩)⟩
          unfold Evt.Ahead
          omega
    · refine .inr ⟨⟨?_⟩, .inl ⟨b1, by simp [h2]⟩⟩
      unfold Evt.Ahead
      omega
theorem three_new {w : World} {b : Nat} {x : Evt} {ty : TypeId} (h : w.heap[b]? = some (.cells #[.int .i64 x.k, .int .i64 x.at_, .int .i64 x.ix] ty)) : ∀ j u, (valEv x)[j]? = some u → w.cell? ((⟨b, 0, none⟩ : Addr).add j) = some u := by
  intro m u hm
  have hm0 : m < 3 := by
    have h := (List.getElem?_eq_some_iff.1 hm).1
    simpa [valEv] using h
  rw [add_pl2, Nat.zero_add, (cells_at h m (by simp; omega)).1]
  rcases (show m = 0 ∨ m = 1 ∨ m = 2 by omega) with rfl | rfl | rfl
  all_goals
    simp [valEv] at hm
    subst hm
    rfl
theorem three_at3 {w : World} {b : Nat} {x : Evt} {ty : TypeId} (h : w.heap[b]? = some (.cells #[.int .i64 x.k, .int .i64 x.at_, .int .i64 x.ix] ty)) : w.cell? ⟨b, 0, none⟩ = some (.int .i64 x.k) ∧ w.cell? ⟨b, 1, none⟩ = some (.int .i64 x.at_) ∧ w.cell? ⟨b, 2, none⟩ = some (.int .i64 x.ix) :=
  ⟨(cells_at h 0 (by simp)).1, (cells_at h 1 (by simp)).1, (cells_at h 2 (by simp)).1⟩
theorem drop_cells {w : World} {b off : Nat} {L : List Evt} (h : EvCame w (some ⟨b, off, none⟩) L) (i : Nat) (hi : i ≤ L.length) : ∀ j u, (flatEv (L.drop i))[j]? = some u → w.cell? ((⟨b, off + i * 3, none⟩ : Addr).add j) = some u := by
  intro j u hu
  have e : (flatEv L)[i * 3 + j]? = some u := by
    rw [← List.take_append_drop i L, flatEv_append, List.getElem?_append_right (by rw [flatEv_length, List.length_take, Nat.min_eq_left hi]; omega), flatEv_length, List.length_take, Nat.min_eq_left hi, Nat.add_sub_cancel_left]
    exact hu
  have k := Evcame_cells h _ u e
  rw [add_pl2] at k ⊢
  rw [Nat.add_assoc]
  exact k
theorem Evown2 {w : World} {B : Nat} {t : TypeId} {v : Value} {L : List Evt} (h : w.ownsRow B t 3 v L.length (flatEv L)) : ∃ ad cap, v = .slice ad L.length cap ∧ EvCame w ad L ∧ L.length ≤ cap := by
  have h' := h
  obtain ⟨_, h⟩ := h
  rcases h with ⟨h1, h2⟩ | ⟨g, cap, cur, rfl, hB, hg, hc, hx⟩
  · have e : L = [] := List.length_eq_zero_iff.1 h2
    subst e
    exact ⟨none, 0, h1, EvCame.nil _ _, Nat.le_refl _⟩
  · obtain ⟨ad, cap2, e2, hcm⟩ := Evown h'
    cases e2
    exact ⟨_, _, rfl, hcm, hc⟩
theorem alloc_two' (w : World) (A B : Obj) : ((w.alloc A).alloc B).heap[w.heap.size + 1]? = some B := by
  have : w.heap.size + 1 = (w.alloc A).heap.size := by simp
  rw [this]
  exact alloc_last _ _
set_option maxRecDepth 100000 in
set_option maxHeartbeats 3200000 in
theorem put_row (bL oL : Nat) (cap : Nat) (L : List Evt) (e : Evt) (w : World) (hr : EvCame w (some ⟨bL, oL, none⟩) L) (hl : L.length ≤ 100000) (hcp : L.length ≤ cap) :
    Calls Tryd.prog 61 #[.slice (some ⟨bL, oL, none⟩) L.length cap, .agg #[.int .i64 e.k, .int .i64 e.at_, .int .i64 e.ix]] w fun x w' => ∃ ad' cap', x = .returned (.slice ad' (L.length + 1) cap') ∧ EvCame w' ad' (putV L e) ∧ L.length + 1 ≤ cap' ∧ Below w.heap.size w w' := by
  obtain ⟨i0, hi, hz0, hz1, hz2⟩ := info_parts infoREv
  have HR0 := hideR hr
  clear hr
  go_enter Tryd.func61, Tryd.ntmps61
  go_wp2
  have HE := hideR (alloc_last w (.cells #[.int .i64 e.k, .int .i64 e.at_, .int .i64 e.ix] 74))
  have HR := hideR ((unhideR HR0).below (below_a w (.cells #[.int .i64 e.k, .int .i64 e.at_, .int .i64 e.ix] 74)))
  have HW0 := hideR (below_a w (.cells #[.int .i64 e.k, .int .i64 e.at_, .int .i64 e.ix] 74))
  have hs0 : w.heap.size < (w.alloc (.cells #[.int .i64 e.k, .int .i64 e.at_, .int .i64 e.ix] 74)).heap.size := by simp
  generalize w.alloc (.cells #[.int .i64 e.k, .int .i64 e.at_, .int .i64 e.ix] 74) = W0 at *
  clear HR0
  go_loopw [5, 6] (fun ov iv wl => ∃ i : Nat, i ≤ L.length ∧ iv = .int .i64 (i : Nat) ∧ HeldR (∀ j, j < i → (L.getD j ev0).Ahead e) ∧ HeldR (wl.ownsRow W0.heap.size 74 3 ov i (flatEv (L.take i))) ∧ HeldR (Below W0.heap.size W0 wl)) (fun _ iv _ => L.length + 1 - (intOf iv).toNat)
  case atStart => exact ⟨0, by omega, rfl, hideR (fun j hj => absurd hj (Nat.not_lt_zero j)), World.ownsRow_nil _ _ _ _, hideR (Below.refl _ _)⟩
  case round =>
    obtain ⟨i, hi', rfl, HA, HO, HW⟩ := hrel
    obtain ⟨e0, e1, e2⟩ := three_at3 (keepB (unhideR HE) (unhideR HW))
    have hb0 : w.heap.size < wr.heap.size := Nat.lt_of_lt_of_le hs0 (unhideR HW).size
    have l1 := (unhideR HW).size
    by_cases hlt : i < L.length
    · obtain ⟨b, off, eb, hb, hat⟩ := ((unhideR HR).below (unhideR HW)).at_ i hlt
      cases eb
      obtain ⟨c0, c1, c2⟩ := hat
      have HT := hideR (Evtake hlt)
      have HC := hideR (ahead_cases (L.getD i ev0) e)
      have HX : HeldR (∀ x, x = L.getD i ev0 → (AhT x e → ∀ j, j < i + 1 → (L.getD j ev0).Ahead e) ∧ (AhF x e → putV L e = L.take i ++ e :: L.drop i)) := fun x hx => by
        subst hx
        refine ⟨fun h j hj => ?_, fun h => putV_split L e i hi' (unhideR HA) (fun _ => h.is)⟩
        by_cases q : j = i
        · rw [q]; exact h.is
        · exact unhideR HA j (by omega)
      replace HX := hideR (unhideR HX _ rfl)
      generalize L.getD i ev0 = x at *
      rcases unhideR HC with ⟨hA, h | ⟨b1, b2, b3⟩ | ⟨b1, b2, b3, b4, b5⟩⟩ | ⟨hA, ⟨b1, b2⟩ | ⟨b1, b2, b3, b4⟩ | ⟨b1, b2, b3, b4, b5⟩⟩
      iterate 3
        · have HA2 := hideR ((unhideR HX).1 hA)
          clear HC HX hA HA
          go_wp2_with (first
            | (at_builtin; refine wpList_append_own _ rfl _ _ 72 rfl W0.heap.size 74 i0 Evzv 3 24 Tryd.underlying72 hi hz0 hz1 hz2 rfl (by decide) _ i (flatEv (L.take i)) rfl (own_below2 (unhideR HO) (below_go (below_a _ _) (below_a _ _))) ⟨wr.heap.size + 1, 0, none⟩ 1 1 (valEv x) rfl rfl ?c1 ?c2 ?c3 ?c4 ?c5 ?_))
          case c1 => exact three_new (alloc_two' wr _ _)
          case c2 =>
            intro u hu
            exact flatEv_one [x] u (by simpa [flatEv] using hu)
          case c3 => unfold maxLen; omega
          case c4 => omega
          case c5 => simp; omega
          intro v3 w3 hown2 hgrow2 _
          have B3 := hideR ((below_go (unhideR HW) (below_go (below_a wr _) (below_a _ _))).grown hgrow2 (by simp; omega) (fun g h => by have := own_at2 (unhideR HO) g h; omega))
          have O3 : HeldR (w3.ownsRow W0.heap.size 74 3 v3 (i + 1) (flatEv (L.take (i + 1)))) := by
            unfold HeldR
            rw [unhideR HT, flatEv_append]
            simpa [flatEv] using hown2
          clear hown2 hgrow2 HO HW HT
          go_wp2
          exact ⟨⟨i + 1, by omega, by go_num, HA2, O3, B3⟩, by simp [intOf]; omega⟩
      iterate 3
        · have HP := hideR ((unhideR HX).2 hA)
          clear HC HX hA HA HT
          go_wp2_with (first
            | (at_builtin; refine wpList_append_own _ rfl _ _ 72 rfl W0.heap.size 74 i0 Evzv 3 24 Tryd.underlying72 hi hz0 hz1 hz2 rfl (by decide) _ i (flatEv (L.take i)) rfl (own_below2 (unhideR HO) (below_go (below_a _ _) (below_a _ _))) ⟨wr.heap.size + 1, 0, none⟩ 1 1 (valEv e) rfl rfl ?c1 ?c2 ?c3 ?c4 ?c5 ?_))
          case c1 => exact three_new (alloc_two' wr _ _)
          case c2 =>
            intro u hu
            exact flatEv_one [e] u (by simpa [flatEv] using hu)
          case c3 => unfold maxLen; omega
          case c4 => omega
          case c5 => simp; omega
          intro v3 w3 hown2 hgrow2 _
          have B3 := hideR ((below_go (unhideR HW) (below_go (below_a wr _) (below_a _ _))).grown hgrow2 (by simp; omega) (fun g h => by have := own_at2 (unhideR HO) g h; omega))
          have O3 : HeldR (w3.ownsRow W0.heap.size 74 3 v3 (i + 1) (flatEv (L.take i ++ [e]))) := by
            unfold HeldR
            rw [flatEv_append]
            simpa [flatEv] using hown2
          clear hown2 hgrow2 HO HW
          go_wp2_with (first
            | (at_builtin; refine wpList_append_own _ rfl _ _ 72 rfl W0.heap.size 74 i0 Evzv 3 24 Tryd.underlying72 hi hz0 hz1 hz2 rfl (by decide) _ (i + 1) (flatEv (L.take i ++ [e])) rfl (unhideR O3) ⟨bL, oL + i * 3, none⟩ (L.length - i) _ (flatEv (L.drop i)) rfl (by rw [flatEv_length, List.length_drop]) ?d1 ?d2 ?d3 ?d4 ?d5 ?_))
          case d1 => exact drop_cells ((unhideR HR).below (unhideR B3)) i (by omega)
          case d2 => exact flatEv_one (L.drop i)
          case d3 => unfold maxLen; omega
          case d4 => omega
          case d5 => exact (unhideR B3).size
          intro v4 w4 hown4 hgrow4 _
          have B4 := hideR (below_go (unhideR HW0) ((unhideR B3).grown hgrow4 (unhideR B3).size (fun g h => own_at2 (unhideR O3) g h)))
          have O4 : HeldR (w4.ownsRow W0.heap.size 74 3 v4 (putV L e).length (flatEv (putV L e))) := by
            unfold HeldR
            rw [putV_length, unhideR HP, flatEv_append]
            have e1 : i + 1 + (L.length - i) = L.length + 1 := by omega
            rw [e1, flatEv_append, List.append_assoc] at hown4
            exact hown4
          clear hown4 hgrow4 O3 B3
          obtain ⟨ad', cap', rfl, hcm, hcp2⟩ := Evown2 (unhideR O4)
          have HM := hideR hcm
          have HL := hideR (putV_length L e)
          clear hcm O4
          go_wp2
          go_ret
          exact ⟨ad', cap', by rw [← unhideR HL]; rfl, unhideR HM, by rw [← unhideR HL]; exact hcp2, unhideR B4⟩
    · obtain rfl : i = L.length := by omega
      rcases (show cap = L.length ∨ L.length < cap by omega) with hcc | hcc
      case' inl => subst hcc
      all_goals
        have HP := hideR (putV_split L e L.length (Nat.le_refl _) (unhideR HA) (fun h => absurd h (by omega)))
        go_wp2_with (first
          | (at_builtin; refine wpList_append_own _ rfl _ _ 72 rfl W0.heap.size 74 i0 Evzv 3 24 Tryd.underlying72 hi hz0 hz1 hz2 rfl (by decide) _ L.length (flatEv (L.take L.length)) rfl (own_below2 (unhideR HO) (below_a _ _)) ⟨wr.heap.size, 0, none⟩ 1 1 (valEv e) rfl rfl ?c1 ?c2 ?c3 ?c4 ?c5 ?_))
        case c1 => exact three_new (alloc_last wr _)
        case c2 =>
          intro u hu
          exact flatEv_one [e] u (by simpa [flatEv] using hu)
        case c3 => unfold maxLen; omega
        case c4 => omega
        case c5 => simp; omega
        intro v3 w3 hown2 hgrow2 _
        have B3 := hideR ((below_go (unhideR HW) (below_a wr _)).grown hgrow2 (by simp; omega) (fun g h => by have := own_at2 (unhideR HO) g h; omega))
        have O3 : HeldR (w3.ownsRow W0.heap.size 74 3 v3 (L.length + 1) (flatEv (L.take L.length ++ [e]))) := by
          unfold HeldR
          rw [flatEv_append]
          simpa [flatEv] using hown2
        clear hown2 hgrow2 HO HW
        go_wp2_with (first
          | (at_builtin; refine wpList_append_own _ rfl _ _ 72 rfl W0.heap.size 74 i0 Evzv 3 24 Tryd.underlying72 hi hz0 hz1 hz2 rfl (by decide) _ (L.length + 1) (flatEv (L.take L.length ++ [e])) rfl (unhideR O3) _ 0 _ [] rfl rfl ?d1 ?d2 ?d3 ?d4 ?d5 ?_))
        case d1 => intro j u hu; cases hu
        case d2 => intro u hu; cases hu
        case d3 => unfold maxLen; omega
        case d4 => omega
        case d5 => exact (unhideR B3).size
        intro v4 w4 hown4 hgrow4 _
        have B4 := hideR (below_go (unhideR HW0) ((unhideR B3).grown hgrow4 (unhideR B3).size (fun g h => own_at2 (unhideR O3) g h)))
        have O4 : HeldR (w4.ownsRow W0.heap.size 74 3 v4 (putV L e).length (flatEv (putV L e))) := by
          unfold HeldR
          rw [putV_length, unhideR HP, List.drop_length, List.take_length]
          exact hown4
        clear hown4 hgrow4 O3 B3
        obtain ⟨ad', cap', rfl, hcm, hcp2⟩ := Evown2 (unhideR O4)
        have HM := hideR hcm
        have HL := hideR (putV_length L e)
        clear hcm O4
        go_wp2
        go_ret
        exact ⟨ad', cap', by rw [← unhideR HL]; rfl, unhideR HM, by rw [← unhideR HL]; exact hcp2, unhideR B4⟩
set_option maxRecDepth 100000 in
set_option maxHeartbeats 1600000 in
theorem put_nil (e : Evt) (w : World) :
    Calls Tryd.prog 61 #[.slice none 0 0, .agg #[.int .i64 e.k, .int .i64 e.at_, .int .i64 e.ix]] w fun x w' => ∃ ad' cap', x = .returned (.slice ad' 1 cap') ∧ EvCame w' ad' [e] ∧ 1 ≤ cap' ∧ Below w.heap.size w w' := by
  obtain ⟨i0, hi, hz0, hz1, hz2⟩ := info_parts infoREv
  go_enter Tryd.func61, Tryd.ntmps61
  go_wp2
  have HE := hideR (alloc_last w (.cells #[.int .i64 e.k, .int .i64 e.at_, .int .i64 e.ix] 74))
  have HW0 := hideR (below_a w (.cells #[.int .i64 e.k, .int .i64 e.at_, .int .i64 e.ix] 74))
  have hs0 : w.heap.size < (w.alloc (.cells #[.int .i64 e.k, .int .i64 e.at_, .int .i64 e.ix] 74)).heap.size := by simp
  generalize w.alloc (.cells #[.int .i64 e.k, .int .i64 e.at_, .int .i64 e.ix] 74) = W0 at *
  obtain ⟨e0, e1, e2⟩ := three_at3 (unhideR HE)
  go_loopw [5, 6] (fun ov iv wl => ov = .slice none 0 0 ∧ iv = .int .i64 0 ∧ wl = W0) (fun _ _ _ => 0)
  case atStart => exact ⟨rfl, rfl, rfl⟩
  case round =>
    obtain ⟨rfl, rfl, rfl⟩ := hrel
    go_wp2_with (first
      | (at_builtin; refine wpList_append_own _ rfl _ _ 72 rfl wr.heap.size 74 i0 Evzv 3 24 Tryd.underlying72 hi hz0 hz1 hz2 rfl (by decide) _ 0 [] rfl (World.ownsRow_nil _ _ _ _) ⟨wr.heap.size, 0, none⟩ 1 1 (valEv e) rfl rfl ?c1 ?c2 ?c3 ?c4 ?c5 ?_))
    case c1 => exact three_new (alloc_last wr _)
    case c2 =>
      intro u hu
      exact flatEv_one [e] u (by simpa [flatEv] using hu)
    case c3 => unfold maxLen; omega
    case c4 => omega
    case c5 => simp
    intro v3 w3 hown2 hgrow2 _
    have B3 := hideR ((below_a wr _).grown hgrow2 (by simp) (fun g h => by cases h))
    have O3 : HeldR (w3.ownsRow wr.heap.size 74 3 v3 ([e] : List Evt).length (flatEv [e])) := by
      unfold HeldR
      simpa [flatEv] using hown2
    clear hown2 hgrow2
    go_wp2_with (first
      | (at_builtin; refine wpList_append_own_none rfl _ _ 72 rfl wr.heap.size 74 i0 3 Tryd.underlying72 hi _ _ _ rfl (unhideR O3) rfl ?_))
    obtain ⟨ad', cap', rfl, hcm, hcp2⟩ := Evown2 (unhideR O3)
    have HM := hideR hcm
    have B4 := hideR (below_go (unhideR HW0) (unhideR B3))
    clear hcm O3 B3
    go_wp2
    go_ret
    exact ⟨ad', cap', rfl, unhideR HM, hcp2, unhideR B4⟩
/-- a slice of events: none, or some. -/
inductive EvSl (w : World) : Value → List Evt → Prop where
  | nil : EvSl w (.slice none 0 0) []
  | row {b off cap : Nat} {L : List Evt} : EvCame w (some ⟨b, off, none⟩) L → L.length ≤ cap → EvSl w (.slice (some ⟨b, off, none⟩) L.length cap) L
theorem EvSl.below {w u : World} {v : Value} {L : List Evt} (h : EvSl w v L) (k : Below w.heap.size w u) : EvSl u v L := by
  cases h with
  | nil => exact .nil
  | row h hc => exact .row (h.below k) hc
theorem EvSl.cut {w : World} {v : Value} {L : List Evt} (h : EvSl w v L) : ∃ ad cap, v = .slice ad L.length cap ∧ EvCame w ad L := by
  cases h with
  | nil => exact ⟨none, 0, rfl, EvCame.nil _ _⟩
  | row h hc => exact ⟨_, _, rfl, h⟩
theorem EvCame.sl {w : World} {ad : Option Addr} {cap : Nat} {L : List Evt} (h : EvCame w ad L) (hn : L ≠ []) (hc : L.length ≤ cap) : EvSl w (.slice ad L.length cap) L := by
  obtain ⟨b, off, e, _, _⟩ := h.at_ 0 (List.length_pos_iff.2 hn)
  subst e
  exact .row h hc
theorem put_any {v : Value} {L : List Evt} (e : Evt) {w : World} (h : EvSl w v L) (hl : L.length ≤ 100000) :
    Calls Tryd.prog 61 #[v, .agg #[.int .i64 e.k, .int .i64 e.at_, .int .i64 e.ix]] w fun x w' => ∃ u, x = .returned u ∧ EvSl w' u (putV L e) ∧ Below w.heap.size w w' := by
  have hne : putV L e ≠ [] := fun k => by
    have := putV_length L e
    rw [k] at this
    simp at this
  cases h with
  | nil =>
    refine (put_nil e w).mono ?_
    rintro x w' ⟨ad', cap', rfl, hcm, hc, hb⟩
    exact ⟨_, rfl, EvCame.sl (L := [e]) hcm (by simp) hc, hb⟩
  | row h hc =>
    refine (put_row _ _ _ L e w h hl hc).mono ?_
    rintro x w' ⟨ad', cap', rfl, hcm, hc, hb⟩
    refine ⟨_, rfl, ?_, hb⟩
    have := hcm.sl (cap := cap') hne (by rw [putV_length]; exact hc)
    rw [putV_length] at this
    exact this
end Go.Proofs.YtlhjmmcimhceeagDoor
