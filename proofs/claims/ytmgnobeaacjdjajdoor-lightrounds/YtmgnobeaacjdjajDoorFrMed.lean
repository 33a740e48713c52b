/-
  The document's median, by contract.
-/
import Derived.Test.YtmgnobeaacjdjajDoorFrA
import Derived.Test.YtmgnobeaacjdjajDoorPureA
namespace Go.Proofs.YtmgnobeaacjdjajDoor
open Go Go.RowKit

structure Cnt (L : List Int) (x : Int) (j B S : Nat) : Prop where
  b : belowN (L.take j) x = B
  s : sameN (L.take j) x = S
theorem Cnt.zero (L : List Int) (x : Int) : Cnt L x 0 0 0 := ⟨rfl, rfl⟩
theorem Cnt.next {L : List Int} {x y : Int} {j B S : Nat} (h : Cnt L x j B S) (hj : j < L.length) (hy : L.getD j 0 = y) : Cnt L x (j + 1) (B + if y < x then 1 else 0) (S + if y = x then 1 else 0) := by
  constructor
  · unfold belowN
    rw [countP_next _ hj, hy]
    have := h.b
    unfold belowN at this
    rw [this]
    simp
  · unfold sameN
    rw [countP_next _ hj, hy]
    have := h.s
    unfold sameN at this
    rw [this]
    simp
theorem Cnt.le {L : List Int} {x : Int} {j B S : Nat} (h : Cnt L x j B S) : B ≤ L.length ∧ S ≤ L.length := by
  rw [← h.b, ← h.s]
  have a : (L.take j).length ≤ L.length := by simp; omega
  exact ⟨Nat.le_trans List.countP_le_length a, Nat.le_trans List.countP_le_length a⟩
theorem Cnt.med {L : List Int} {x : Int} {B S : Nat} (h : Cnt L x L.length B S) : IsMed L x ↔ (B ≤ (L.length - 1) / 2 ∧ (L.length - 1) / 2 < B + S) := by
  have e1 := h.b
  have e2 := h.s
  rw [List.take_length] at e1 e2
  exact ⟨fun q => ⟨by rw [← e1]; exact q.lo, by rw [← e1, ← e2]; exact q.hi⟩, fun q => ⟨by rw [e1]; exact q.1, by rw [e1, e2]; exact q.2⟩⟩
set_option maxRecDepth 100000 in
set_option maxHeartbeats 6400000 in
theorem medianOf_any {w : World} {cap : Nat} {ad : Option Addr} {L : List Int} (hr : ICame w ad L) (h0 : 0 < L.length) (hl : L.length ≤ 65536) :
    Calls Tryd.prog 32 #[.slice ad L.length cap] w fun e w' => e = .returned (.int .i64 (medV L)) ∧ Below w.heap.size w w' := by
  have HR := hideR hr
  have HOne : HeldR (∀ x, IsMed L x → x = medV L) := fun x h => med_eq h0 h
  have HIn : HeldR ((∀ j, j < L.length → ¬ IsMed L (L.getD j 0)) → False) := fun h => by
    obtain ⟨k, hk, e⟩ := med_in h0
    exact h k hk (by rw [e]; exact med_is h0)
  obtain ⟨q, hq⟩ : ∃ q : Nat, q = (L.length - 1) / 2 := ⟨_, rfl⟩
  have HQ := hideR hq
  have eq1 : IntKind.i64.wrap ((L.length : Int) - 1) = ((L.length - 1 : Nat) : Int) := by
    rw [show (L.length : Int) - 1 = ((L.length - 1 : Nat) : Int) by omega]
    exact iwrap (by omega) (by omega)
  have eq2 : ((L.length - 1 : Nat) : Int) / 2 = (q : Int) := by omega
  have eq3 : IntKind.i64.wrap (q : Int) = (q : Int) := iwrap (by omega) (by omega)
  have eq0 : ((L.length : Int) - 1) / 2 = (q : Int) := by omega
  have hq2 : q ≤ 65536 := by omega
  generalize medV L = M at *
  clear hr hq
  go_enter Tryd.func32, Tryd.ntmps32
  go_wp2
  go_loopw [5] (fun iv wl => ∃ i : Nat, i ≤ L.length ∧ iv = .int .i64 (i : Nat) ∧ HeldR (∀ j, j < i → ¬ IsMed L (L.getD j 0)) ∧ HeldR (Below w.heap.size w wl)) (fun iv _ => L.length + 1 - (intOf iv).toNat)
  case atStart => exact ⟨0, by omega, rfl, hideR (fun j hj => absurd hj (Nat.not_lt_zero j)), hideR (Below.refl _ _)⟩
  case round =>
    obtain ⟨i, hi, rfl, HM, HW⟩ := hrel
    by_cases hlt : i < L.length
    · have HMi : HeldR (¬ IsMed L (L.getD i 0) → ∀ j, j < i + 1 → ¬ IsMed L (L.getD j 0)) := fun q j hj => by
        rcases (show j < i ∨ j = i by omega) with z | rfl
        · exact unhideR HM j z
        · exact q
      have HXi : HeldR (∀ u, Below w.heap.size w u → ∃ b off, ad = some ⟨b, off, none⟩ ∧ b < u.heap.size ∧ u.cell? ⟨b, off + i, none⟩ = some (.int .i64 (L.getD i 0))) := fun u hu => ((unhideR HR).below hu).at_ i hlt
      generalize L.getD i 0 = x at HMi HXi
      clear HM
      go_wp2
      go_loopw [6, 7, 8] (fun bv sv jv wl => ∃ (j B S : Nat), j ≤ L.length ∧ bv = .int .i64 (B : Nat) ∧ sv = .int .i64 (S : Nat) ∧ jv = .int .i64 (j : Nat) ∧ HeldR (Cnt L x j B S) ∧ HeldR (Below w.heap.size w wl)) (fun _ _ jv _ => L.length + 1 - (intOf jv).toNat)
      case atStart => exact ⟨0, 0, 0, by omega, rfl, rfl, rfl, hideR (Cnt.zero L x), HW⟩
      case round =>
        clear HW
        obtain ⟨j, B, S, hj, rfl, rfl, rfl, HC, HW⟩ := hrel
        have hle := (unhideR HC).le
        by_cases hjl : j < L.length
        · obtain ⟨b, off, rfl, lj, cj⟩ := ((unhideR HR).below (unhideR HW)).at_ j hjl
          obtain ⟨b', off', e', _, ci⟩ := unhideR HXi _ (unhideR HW)
          cases e'
          have HCn := hideR ((unhideR HC).next hjl rfl)
          generalize L.getD j 0 = y at cj HCn
          by_cases y1 : y < x
          · have HC2 : HeldR (Cnt L x (j + 1) (B + 1) S) := by
              have := unhideR HCn
              rw [if_pos y1, if_neg (show ¬ y = x by omega)] at this
              exact this
            have t1 : decide (y < x) = true := decide_eq_true y1
            have t2 : (y == x) = false := by simp; omega
            clear HCn HC
            go_wp2_with fail
            refine wp_region_lets [(· = .slice (some ⟨b, off, none⟩) L.length cap),
              (· = .int .i64 (j : Nat)),
              (· = .pointer (some ⟨b, off + j, none⟩)),
              (· = .int .i64 y),
              (· = .slice (some ⟨b, off, none⟩) L.length cap),
              (· = .int .i64 (i : Nat)),
              (· = .pointer (some ⟨b, off + i, none⟩)),
              (· = .int .i64 x),
              (· = .bool true)] (by kernel_rfl) (by kernel_rfl) ?_
            refine lexL_step (fun K hK => ⟨by kernel_rfl, ⟨_, rfl⟩, fun n => ?_, fun v hv => ?_⟩)
            · go_simp
              exact lUpon_one
            subst hv
            go_simp
            refine hK _ ?_
            clear hK K
            refine lexL_step (fun K hK => ⟨by kernel_rfl, ⟨_, rfl⟩, fun n => ?_, fun v hv => ?_⟩)
            · go_simp
              exact lUpon_one
            subst hv
            go_simp
            refine hK _ ?_
            clear hK K
            refine lexL_step (fun K hK => ⟨by kernel_rfl, ⟨_, rfl⟩, fun n => ?_, fun v hv => ?_⟩)
            · go_simp
              exact lUpon_one
            subst hv
            go_simp
            refine hK _ ?_
            clear hK K
            refine lexL_step (fun K hK => ⟨by kernel_rfl, ⟨_, rfl⟩, fun n => ?_, fun v hv => ?_⟩)
            · go_simp
              exact lUpon_one
            subst hv
            go_simp
            refine hK _ ?_
            clear hK K
            refine lexL_step (fun K hK => ⟨by kernel_rfl, ⟨_, rfl⟩, fun n => ?_, fun v hv => ?_⟩)
            · go_simp
              exact lUpon_one
            subst hv
            go_simp
            refine hK _ ?_
            clear hK K
            refine lexL_step (fun K hK => ⟨by kernel_rfl, ⟨_, rfl⟩, fun n => ?_, fun v hv => ?_⟩)
            · go_simp
              exact lUpon_one
            subst hv
            go_simp
            refine hK _ ?_
            clear hK K
            refine lexL_step (fun K hK => ⟨by kernel_rfl, ⟨_, rfl⟩, fun n => ?_, fun v hv => ?_⟩)
            · go_simp
              exact lUpon_one
            subst hv
            go_simp
            refine hK _ ?_
            clear hK K
            refine lexL_step (fun K hK => ⟨by kernel_rfl, ⟨_, rfl⟩, fun n => ?_, fun v hv => ?_⟩)
            · go_simp
              exact lUpon_one
            subst hv
            go_simp
            refine hK _ ?_
            clear hK K
            refine lexL_step (fun K hK => ⟨by kernel_rfl, ⟨_, rfl⟩, fun n => ?_, fun v hv => ?_⟩)
            · go_simp
              exact lUpon_one
            subst hv
            go_simp
            refine hK _ ?_
            clear hK K
            refine lexL_end ?_
            intro n9
            have hb1 := drawn_below wr n9
            replace cj := (hb1.cell (p := ⟨b, off + j, none⟩) lj).trans cj
            replace ci := (hb1.cell (p := ⟨b, off + i, none⟩) lj).trans ci
            replace lj := Nat.lt_of_lt_of_le lj hb1.size
            replace HW := hideR (below_go (unhideR HW) hb1)
            clear hb1
            generalize wr.drewN n9 = W1 at *
            go_wp2_with fail
            refine wp_region_lets [(· = .slice (some ⟨b, off, none⟩) L.length cap),
              (· = .int .i64 (j : Nat)),
              (· = .pointer (some ⟨b, off + j, none⟩)),
              (· = .int .i64 y),
              (· = .slice (some ⟨b, off, none⟩) L.length cap),
              (· = .int .i64 (i : Nat)),
              (· = .pointer (some ⟨b, off + i, none⟩)),
              (· = .int .i64 x),
              (· = .bool false)] (by kernel_rfl) (by kernel_rfl) ?_
            refine lexL_step (fun K hK => ⟨by kernel_rfl, ⟨_, rfl⟩, fun n => ?_, fun v hv => ?_⟩)
            · go_simp
              exact lUpon_one
            subst hv
            go_simp
            refine hK _ ?_
            clear hK K
            refine lexL_step (fun K hK => ⟨by kernel_rfl, ⟨_, rfl⟩, fun n => ?_, fun v hv => ?_⟩)
            · go_simp
              exact lUpon_one
            subst hv
            go_simp
            refine hK _ ?_
            clear hK K
            refine lexL_step (fun K hK => ⟨by kernel_rfl, ⟨_, rfl⟩, fun n => ?_, fun v hv => ?_⟩)
            · go_simp
              exact lUpon_one
            subst hv
            go_simp
            refine hK _ ?_
            clear hK K
            refine lexL_step (fun K hK => ⟨by kernel_rfl, ⟨_, rfl⟩, fun n => ?_, fun v hv => ?_⟩)
            · go_simp
              exact lUpon_one
            subst hv
            go_simp
            refine hK _ ?_
            clear hK K
            refine lexL_step (fun K hK => ⟨by kernel_rfl, ⟨_, rfl⟩, fun n => ?_, fun v hv => ?_⟩)
            · go_simp
              exact lUpon_one
            subst hv
            go_simp
            refine hK _ ?_
            clear hK K
            refine lexL_step (fun K hK => ⟨by kernel_rfl, ⟨_, rfl⟩, fun n => ?_, fun v hv => ?_⟩)
            · go_simp
              exact lUpon_one
            subst hv
            go_simp
            refine hK _ ?_
            clear hK K
            refine lexL_step (fun K hK => ⟨by kernel_rfl, ⟨_, rfl⟩, fun n => ?_, fun v hv => ?_⟩)
            · go_simp
              exact lUpon_one
            subst hv
            go_simp
            refine hK _ ?_
            clear hK K
            refine lexL_step (fun K hK => ⟨by kernel_rfl, ⟨_, rfl⟩, fun n => ?_, fun v hv => ?_⟩)
            · go_simp
              exact lUpon_one
            subst hv
            go_simp
            refine hK _ ?_
            clear hK K
            refine lexL_step (fun K hK => ⟨by kernel_rfl, ⟨_, rfl⟩, fun n => ?_, fun v hv => ?_⟩)
            · go_simp
              exact lUpon_one
            subst hv
            go_simp
            refine hK _ ?_
            clear hK K
            refine lexL_end ?_
            intro n9
            have hb2 := drawn_below W1 n9
            replace cj := (hb2.cell (p := ⟨b, off + j, none⟩) lj).trans cj
            replace ci := (hb2.cell (p := ⟨b, off + i, none⟩) lj).trans ci
            replace lj := Nat.lt_of_lt_of_le lj hb2.size
            replace HW := hideR (below_go (unhideR HW) hb2)
            clear hb2
            generalize W1.drewN n9 = W2 at *
            clear cj ci lj
            go_wp2
            exact ⟨⟨j + 1, B + 1, S, by omega, by go_num, by go_num, by go_num, HC2, HW⟩, by simp [intOf]; omega⟩
          · have t1 : decide (y < x) = false := decide_eq_false y1
            by_cases y2 : y = x
            · have HC2 : HeldR (Cnt L x (j + 1) B (S + 1)) := by
                have := unhideR HCn
                rw [if_neg y1, if_pos y2] at this
                exact this
              have t2 : (y == x) = true := by simp [y2]
              clear HCn HC y2
              go_wp2_with fail
              refine wp_region_lets [(· = .slice (some ⟨b, off, none⟩) L.length cap),
                (· = .int .i64 (j : Nat)),
                (· = .pointer (some ⟨b, off + j, none⟩)),
                (· = .int .i64 y),
                (· = .slice (some ⟨b, off, none⟩) L.length cap),
                (· = .int .i64 (i : Nat)),
                (· = .pointer (some ⟨b, off + i, none⟩)),
                (· = .int .i64 x),
                (· = .bool false)] (by kernel_rfl) (by kernel_rfl) ?_
              refine lexL_step (fun K hK => ⟨by kernel_rfl, ⟨_, rfl⟩, fun n => ?_, fun v hv => ?_⟩)
              · go_simp
                exact lUpon_one
              subst hv
              go_simp
              refine hK _ ?_
              clear hK K
              refine lexL_step (fun K hK => ⟨by kernel_rfl, ⟨_, rfl⟩, fun n => ?_, fun v hv => ?_⟩)
              · go_simp
                exact lUpon_one
              subst hv
              go_simp
              refine hK _ ?_
              clear hK K
              refine lexL_step (fun K hK => ⟨by kernel_rfl, ⟨_, rfl⟩, fun n => ?_, fun v hv => ?_⟩)
              · go_simp
                exact lUpon_one
              subst hv
              go_simp
              refine hK _ ?_
              clear hK K
              refine lexL_step (fun K hK => ⟨by kernel_rfl, ⟨_, rfl⟩, fun n => ?_, fun v hv => ?_⟩)
              · go_simp
                exact lUpon_one
              subst hv
              go_simp
              refine hK _ ?_
              clear hK K
              refine lexL_step (fun K hK => ⟨by kernel_rfl, ⟨_, rfl⟩, fun n => ?_, fun v hv => ?_⟩)
              · go_simp
                exact lUpon_one
              subst hv
              go_simp
              refine hK _ ?_
              clear hK K
              refine lexL_step (fun K hK => ⟨by kernel_rfl, ⟨_, rfl⟩, fun n => ?_, fun v hv => ?_⟩)
              · go_simp
                exact lUpon_one
              subst hv
              go_simp
              refine hK _ ?_
              clear hK K
              refine lexL_step (fun K hK => ⟨by kernel_rfl, ⟨_, rfl⟩, fun n => ?_, fun v hv => ?_⟩)
              · go_simp
                exact lUpon_one
              subst hv
              go_simp
              refine hK _ ?_
              clear hK K
              refine lexL_step (fun K hK => ⟨by kernel_rfl, ⟨_, rfl⟩, fun n => ?_, fun v hv => ?_⟩)
              · go_simp
                exact lUpon_one
              subst hv
              go_simp
              refine hK _ ?_
              clear hK K
              refine lexL_step (fun K hK => ⟨by kernel_rfl, ⟨_, rfl⟩, fun n => ?_, fun v hv => ?_⟩)
              · go_simp
                exact lUpon_one
              subst hv
              go_simp
              refine hK _ ?_
              clear hK K
              refine lexL_end ?_
              intro n9
              have hb1 := drawn_below wr n9
              replace cj := (hb1.cell (p := ⟨b, off + j, none⟩) lj).trans cj
              replace ci := (hb1.cell (p := ⟨b, off + i, none⟩) lj).trans ci
              replace lj := Nat.lt_of_lt_of_le lj hb1.size
              replace HW := hideR (below_go (unhideR HW) hb1)
              clear hb1
              generalize wr.drewN n9 = W1 at *
              go_wp2_with fail
              refine wp_region_lets [(· = .slice (some ⟨b, off, none⟩) L.length cap),
                (· = .int .i64 (j : Nat)),
                (· = .pointer (some ⟨b, off + j, none⟩)),
                (· = .int .i64 y),
                (· = .slice (some ⟨b, off, none⟩) L.length cap),
                (· = .int .i64 (i : Nat)),
                (· = .pointer (some ⟨b, off + i, none⟩)),
                (· = .int .i64 x),
                (· = .bool true)] (by kernel_rfl) (by kernel_rfl) ?_
              refine lexL_step (fun K hK => ⟨by kernel_rfl, ⟨_, rfl⟩, fun n => ?_, fun v hv => ?_⟩)
              · go_simp
                exact lUpon_one
              subst hv
              go_simp
              refine hK _ ?_
              clear hK K
              refine lexL_step (fun K hK => ⟨by kernel_rfl, ⟨_, rfl⟩, fun n => ?_, fun v hv => ?_⟩)
              · go_simp
                exact lUpon_one
              subst hv
              go_simp
              refine hK _ ?_
              clear hK K
              refine lexL_step (fun K hK => ⟨by kernel_rfl, ⟨_, rfl⟩, fun n => ?_, fun v hv => ?_⟩)
              · go_simp
                exact lUpon_one
              subst hv
              go_simp
              refine hK _ ?_
              clear hK K
              refine lexL_step (fun K hK => ⟨by kernel_rfl, ⟨_, rfl⟩, fun n => ?_, fun v hv => ?_⟩)
              · go_simp
                exact lUpon_one
              subst hv
              go_simp
              refine hK _ ?_
              clear hK K
              refine lexL_step (fun K hK => ⟨by kernel_rfl, ⟨_, rfl⟩, fun n => ?_, fun v hv => ?_⟩)
              · go_simp
                exact lUpon_one
              subst hv
              go_simp
              refine hK _ ?_
              clear hK K
              refine lexL_step (fun K hK => ⟨by kernel_rfl, ⟨_, rfl⟩, fun n => ?_, fun v hv => ?_⟩)
              · go_simp
                exact lUpon_one
              subst hv
              go_simp
              refine hK _ ?_
              clear hK K
              refine lexL_step (fun K hK => ⟨by kernel_rfl, ⟨_, rfl⟩, fun n => ?_, fun v hv => ?_⟩)
              · go_simp
                exact lUpon_one
              subst hv
              go_simp
              refine hK _ ?_
              clear hK K
              refine lexL_step (fun K hK => ⟨by kernel_rfl, ⟨_, rfl⟩, fun n => ?_, fun v hv => ?_⟩)
              · go_simp
                exact lUpon_one
              subst hv
              go_simp
              refine hK _ ?_
              clear hK K
              refine lexL_step (fun K hK => ⟨by kernel_rfl, ⟨_, rfl⟩, fun n => ?_, fun v hv => ?_⟩)
              · go_simp
                exact lUpon_one
              subst hv
              go_simp
              refine hK _ ?_
              clear hK K
              refine lexL_end ?_
              intro n9
              have hb2 := drawn_below W1 n9
              replace cj := (hb2.cell (p := ⟨b, off + j, none⟩) lj).trans cj
              replace ci := (hb2.cell (p := ⟨b, off + i, none⟩) lj).trans ci
              replace lj := Nat.lt_of_lt_of_le lj hb2.size
              replace HW := hideR (below_go (unhideR HW) hb2)
              clear hb2
              generalize W1.drewN n9 = W2 at *
              clear cj ci lj
              go_wp2
              exact ⟨⟨j + 1, B, S + 1, by omega, by go_num, by go_num, by go_num, HC2, HW⟩, by simp [intOf]; omega⟩
            · have HC2 : HeldR (Cnt L x (j + 1) B S) := by
                have := unhideR HCn
                rw [if_neg y1, if_neg y2] at this
                exact this
              have t2 : (y == x) = false := by simp [y2]
              clear HCn HC y2
              go_wp2_with fail
              refine wp_region_lets [(· = .slice (some ⟨b, off, none⟩) L.length cap),
                (· = .int .i64 (j : Nat)),
                (· = .pointer (some ⟨b, off + j, none⟩)),
                (· = .int .i64 y),
                (· = .slice (some ⟨b, off, none⟩) L.length cap),
                (· = .int .i64 (i : Nat)),
                (· = .pointer (some ⟨b, off + i, none⟩)),
                (· = .int .i64 x),
                (· = .bool false)] (by kernel_rfl) (by kernel_rfl) ?_
              refine lexL_step (fun K hK => ⟨by kernel_rfl, ⟨_, rfl⟩, fun n => ?_, fun v hv => ?_⟩)
              · go_simp
                exact lUpon_one
              subst hv
              go_simp
              refine hK _ ?_
              clear hK K
              refine lexL_step (fun K hK => ⟨by kernel_rfl, ⟨_, rfl⟩, fun n => ?_, fun v hv => ?_⟩)
              · go_simp
                exact lUpon_one
              subst hv
              go_simp
              refine hK _ ?_
              clear hK K
              refine lexL_step (fun K hK => ⟨by kernel_rfl, ⟨_, rfl⟩, fun n => ?_, fun v hv => ?_⟩)
              · go_simp
                exact lUpon_one
              subst hv
              go_simp
              refine hK _ ?_
              clear hK K
              refine lexL_step (fun K hK => ⟨by kernel_rfl, ⟨_, rfl⟩, fun n => ?_, fun v hv => ?_⟩)
              · go_simp
                exact lUpon_one
              subst hv
              go_simp
              refine hK _ ?_
              clear hK K
              refine lexL_step (fun K hK => ⟨by kernel_rfl, ⟨_, rfl⟩, fun n => ?_, fun v hv => ?_⟩)
              · go_simp
                exact lUpon_one
              subst hv
              go_simp
              refine hK _ ?_
              clear hK K
              refine lexL_step (fun K hK => ⟨by kernel_rfl, ⟨_, rfl⟩, fun n => ?_, fun v hv => ?_⟩)
              · go_simp
                exact lUpon_one
              subst hv
              go_simp
              refine hK _ ?_
              clear hK K
              refine lexL_step (fun K hK => ⟨by kernel_rfl, ⟨_, rfl⟩, fun n => ?_, fun v hv => ?_⟩)
              · go_simp
                exact lUpon_one
              subst hv
              go_simp
              refine hK _ ?_
              clear hK K
              refine lexL_step (fun K hK => ⟨by kernel_rfl, ⟨_, rfl⟩, fun n => ?_, fun v hv => ?_⟩)
              · go_simp
                exact lUpon_one
              subst hv
              go_simp
              refine hK _ ?_
              clear hK K
              refine lexL_step (fun K hK => ⟨by kernel_rfl, ⟨_, rfl⟩, fun n => ?_, fun v hv => ?_⟩)
              · go_simp
                exact lUpon_one
              subst hv
              go_simp
              refine hK _ ?_
              clear hK K
              refine lexL_end ?_
              intro n9
              have hb1 := drawn_below wr n9
              replace cj := (hb1.cell (p := ⟨b, off + j, none⟩) lj).trans cj
              replace ci := (hb1.cell (p := ⟨b, off + i, none⟩) lj).trans ci
              replace lj := Nat.lt_of_lt_of_le lj hb1.size
              replace HW := hideR (below_go (unhideR HW) hb1)
              clear hb1
              generalize wr.drewN n9 = W1 at *
              go_wp2_with fail
              refine wp_region_lets [(· = .slice (some ⟨b, off, none⟩) L.length cap),
                (· = .int .i64 (j : Nat)),
                (· = .pointer (some ⟨b, off + j, none⟩)),
                (· = .int .i64 y),
                (· = .slice (some ⟨b, off, none⟩) L.length cap),
                (· = .int .i64 (i : Nat)),
                (· = .pointer (some ⟨b, off + i, none⟩)),
                (· = .int .i64 x),
                (· = .bool false)] (by kernel_rfl) (by kernel_rfl) ?_
              refine lexL_step (fun K hK => ⟨by kernel_rfl, ⟨_, rfl⟩, fun n => ?_, fun v hv => ?_⟩)
              · go_simp
                exact lUpon_one
              subst hv
              go_simp
              refine hK _ ?_
              clear hK K
              refine lexL_step (fun K hK => ⟨by kernel_rfl, ⟨_, rfl⟩, fun n => ?_, fun v hv => ?_⟩)
              · go_simp
                exact lUpon_one
              subst hv
              go_simp
              refine hK _ ?_
              clear hK K
              refine lexL_step (fun K hK => ⟨by kernel_rfl, ⟨_, rfl⟩, fun n => ?_, fun v hv => ?_⟩)
              · go_simp
                exact lUpon_one
              subst hv
              go_simp
              refine hK _ ?_
              clear hK K
              refine lexL_step (fun K hK => ⟨by kernel_rfl, ⟨_, rfl⟩, fun n => ?_, fun v hv => ?_⟩)
              · go_simp
                exact lUpon_one
              subst hv
              go_simp
              refine hK _ ?_
              clear hK K
              refine lexL_step (fun K hK => ⟨by kernel_rfl, ⟨_, rfl⟩, fun n => ?_, fun v hv => ?_⟩)
              · go_simp
                exact lUpon_one
              subst hv
              go_simp
              refine hK _ ?_
              clear hK K
              refine lexL_step (fun K hK => ⟨by kernel_rfl, ⟨_, rfl⟩, fun n => ?_, fun v hv => ?_⟩)
              · go_simp
                exact lUpon_one
              subst hv
              go_simp
              refine hK _ ?_
              clear hK K
              refine lexL_step (fun K hK => ⟨by kernel_rfl, ⟨_, rfl⟩, fun n => ?_, fun v hv => ?_⟩)
              · go_simp
                exact lUpon_one
              subst hv
              go_simp
              refine hK _ ?_
              clear hK K
              refine lexL_step (fun K hK => ⟨by kernel_rfl, ⟨_, rfl⟩, fun n => ?_, fun v hv => ?_⟩)
              · go_simp
                exact lUpon_one
              subst hv
              go_simp
              refine hK _ ?_
              clear hK K
              refine lexL_step (fun K hK => ⟨by kernel_rfl, ⟨_, rfl⟩, fun n => ?_, fun v hv => ?_⟩)
              · go_simp
                exact lUpon_one
              subst hv
              go_simp
              refine hK _ ?_
              clear hK K
              refine lexL_end ?_
              intro n9
              have hb2 := drawn_below W1 n9
              replace cj := (hb2.cell (p := ⟨b, off + j, none⟩) lj).trans cj
              replace ci := (hb2.cell (p := ⟨b, off + i, none⟩) lj).trans ci
              replace lj := Nat.lt_of_lt_of_le lj hb2.size
              replace HW := hideR (below_go (unhideR HW) hb2)
              clear hb2
              generalize W1.drewN n9 = W2 at *
              clear cj ci lj
              go_wp2
              exact ⟨⟨j + 1, B, S, by omega, by go_num, by go_num, by go_num, HC2, HW⟩, by simp [intOf]; omega⟩
        · obtain rfl : j = L.length := by omega
          have hmed := (unhideR HC).med
          rw [← unhideR HQ] at hmed
          have wbs : IntKind.i64.wrap ((B : Int) + (S : Int)) = ((B + S : Nat) : Int) := by
            rw [show (B : Int) + (S : Int) = ((B + S : Nat) : Int) by omega]
            exact iwrap (by omega) (by omega)
          by_cases z1 : B ≤ q
          · by_cases z2 : q < B + S
            · obtain rfl := unhideR HOne x (hmed.2 ⟨z1, z2⟩)
              obtain ⟨b', off', rfl, _, ci⟩ := unhideR HXi _ (unhideR HW)
              clear hmed
              go_wp2
              go_ret
              exact ⟨rfl, unhideR HW⟩
            · have HM2 := hideR (unhideR HMi (fun k => z2 (hmed.1 k).2))
              clear hmed HMi HXi
              go_wp2
              exact ⟨⟨i + 1, by omega, by go_num, HM2, HW⟩, by simp [intOf]; omega⟩
          · have HM2 := hideR (unhideR HMi (fun k => z1 (hmed.1 k).1))
            clear hmed HMi HXi
            go_wp2
            exact ⟨⟨i + 1, by omega, by go_num, HM2, HW⟩, by simp [intOf]; omega⟩
    · obtain rfl : i = L.length := by omega
      exact (unhideR HIn (unhideR HM)).elim
end Go.Proofs.YtmgnobeaacjdjajDoor
