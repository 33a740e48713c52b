/-
  The law SkyChains: what it calls besides.
-/
import Derived.Test.YtbjpkfmencaafafDoorDAgainst2
import Derived.Test.YtbjpkfmencaafafDoorChM4
namespace Go.Proofs.YtbjpkfmencaafafDoor
open Go Go.RowKit

set_option maxHeartbeats 4000000 in
theorem mild_any (x : Nat) (w : World) : Calls Tryd.prog 26 #[.float .f64 x] w fun e w' => e = .returned (.bool (mildB x)) ∧ w' = w := by
  have hneg : ∀ x v, (Op.unary UnOp.neg (.float .f64 x)).run Tryd.prog v = .ok (.float .f64 (Op.negFloat .f64 x)) v := fun _ _ => rfl
  unfold mildB
  cases hl : (FloatKind.f64.format.order x 0 == some .lt)
  · simp only [Bool.false_eq_true, if_false]
    unfold geB leB
    obtain ⟨o1, h1⟩ : ∃ o, FloatKind.f64.format.order x 0 = o := ⟨_, rfl⟩
    obtain ⟨o2, h2⟩ : ∃ o, FloatKind.f64.format.order x 3256102530588868608 = o := ⟨_, rfl⟩
    obtain ⟨o3, h3⟩ : ∃ o, FloatKind.f64.format.order x 5958262307011166208 = o := ⟨_, rfl⟩
    rw [h1, h2, h3]
    rw [h1] at hl
    go_enter Tryd.func26, Tryd.ntmps26
    go_wp2
    all_goals
      go_ret
      simp_all
  · simp only [if_true]
    have hng := fun v => hneg x v
    clear hneg
    generalize Op.negFloat .f64 x = y at *
    unfold geB leB
    obtain ⟨o1, h1⟩ : ∃ o, FloatKind.f64.format.order y 0 = o := ⟨_, rfl⟩
    obtain ⟨o2, h2⟩ : ∃ o, FloatKind.f64.format.order y 3256102530588868608 = o := ⟨_, rfl⟩
    obtain ⟨o3, h3⟩ : ∃ o, FloatKind.f64.format.order y 5958262307011166208 = o := ⟨_, rfl⟩
    rw [h1, h2, h3]
    go_enter Tryd.func26, Tryd.ntmps26
    go_wp2
    all_goals
      go_ret
      simp_all
set_option maxHeartbeats 4000000 in
theorem within_any (x m : Nat) (w : World) (h : wiB x m = true) : Calls Tryd.prog 14 #[.float .f64 x, .float .f64 m] w fun e w' => e = .returned (.bool true) ∧ w' = w := by
  have hneg : ∀ x v, (Op.unary UnOp.neg (.float .f64 x)).run Tryd.prog v = .ok (.float .f64 (Op.negFloat .f64 x)) v := fun _ _ => rfl
  unfold wiB at h
  rw [Bool.and_eq_true] at h
  obtain ⟨h1, h2⟩ := h
  unfold leB at h1
  unfold geB at h2
  go_enter Tryd.func14, Tryd.ntmps14
  go_wp2
  go_ret
  exact ⟨rfl, rfl⟩
set_option maxHeartbeats 4000000 in
theorem mildVec_any (x y z : Nat) (w : World) : Calls Tryd.prog 12 #[.agg #[.float .f64 x, .float .f64 y, .float .f64 z]] w fun e w' => e = .returned (.bool (mildB x && mildB y && mildB z)) ∧ Below w.heap.size w w' := by
  have hx := fun v => mild_any x v
  have hy := fun v => mild_any y v
  have hz := fun v => mild_any z v
  generalize mildB x = bx at *
  generalize mildB y = by_ at *
  generalize mildB z = bz at *
  go_enter Tryd.func12, Tryd.ntmps12
  go_wp2_with fail
  refine (hx _).mono ?_
  rintro e w1 ⟨rfl, rfl⟩
  go_wp2_with fail
  refine (hy _).mono ?_
  rintro e w1 ⟨rfl, rfl⟩
  go_wp2_with fail
  refine (hz _).mono ?_
  rintro e w1 ⟨rfl, rfl⟩
  have HB := hideR ((Below.refl w.heap.size w).alloc (Nat.le_refl _) (.cells #[.float .f64 x, .float .f64 y, .float .f64 z] 25))
  cases bx <;> cases by_ <;> cases bz
  all_goals
    go_wp2
    go_ret
    exact ⟨rfl, unhideR HB⟩
theorem coded_sent {w : World} {a : Nat → Addr} (h : Sents w a) (k : Nat) (hk : k < 10) (c : Int) :
    Calls Tryd.prog 8 #[.iface 107 (.pointer (some (a k))), .int .i64 c] w fun e w' => e = .returned (.bool ((k : Int) + 1 == c)) ∧ Below w.heap.size w w' := by
  go_enter Tryd.func8, Tryd.ntmps8
  go_wp2_with (go_at_call 21; refine (code_sent h k hk).mono ?_; rintro e w' ⟨rfl, hb⟩)
  go_ret
  exact ⟨rfl, hb⟩
set_option maxHeartbeats 4000000 in
theorem sameVec_any (a b c d e f : Nat) (w : World) (h1 : FSame a d) (h2 : FSame b e) (h3 : FSame c f) : Calls Tryd.prog 9 #[.agg #[.float .f64 a, .float .f64 b, .float .f64 c], .agg #[.float .f64 d, .float .f64 e, .float .f64 f]] w fun x w' => x = .returned (.bool true) ∧ Below w.heap.size w w' := by
  have hb := fun x y v (h : FSame x y) => (same_iff.2 h) ▸ sameBits_any x y v
  go_enter Tryd.func9, Tryd.ntmps9
  go_wp2_with fail
  refine (hb _ _ _ h1).mono ?_
  rintro x w1 ⟨rfl, rfl⟩
  go_wp2_with fail
  refine (hb _ _ _ h2).mono ?_
  rintro x w1 ⟨rfl, rfl⟩
  go_wp2_with fail
  refine (hb _ _ _ h3).mono ?_
  rintro x w1 ⟨rfl, rfl⟩
  go_wp2
  go_ret
  exact ⟨rfl, below_al2 w _ _⟩
end Go.Proofs.YtbjpkfmencaafafDoor
