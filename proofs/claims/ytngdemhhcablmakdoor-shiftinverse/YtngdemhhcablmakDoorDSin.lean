/-
  The program's sines and cosines, by their contracts.
-/
import Derived.Test.YtngdemhhcablmakDoorDSin0
namespace Go.Proofs.YtngdemhhcablmakDoor
open Go Go.RowKit

theorem cos_any (a : Int) (w : World) :
    Calls Tryd.prog 43 #[.int .i64 a] w fun e w' => e = .returned (.float .f64 (cosV a)) ∧ Below w.heap.size w w' := by
  have hf := fun v => folded_any a v
  have hs := fun x v hx => sine_of a x v hx
  have hc := fun x v hx => cosine_of a x v hx
  have hneg : ∀ x v, (Op.unary UnOp.neg (.float .f64 x)).run Tryd.prog v = .ok (.float .f64 (ngB x)) v := fun _ _ => rfl
  have h4 : qOf a % 4 = 0 ∨ qOf a % 4 = 1 ∨ qOf a % 4 = 2 ∨ qOf a % 4 = 3 := by omega
  have hV : cosV a = turnC (qOf a) (sV (rOf a)) (cV (rOf a)) := rfl
  rw [hV]
  unfold turnC
  generalize sV (rOf a) = s at *
  generalize cV (rOf a) = c at *
  rcases h4 with h | h | h | h
  all_goals
    rw [h] at hf ⊢
    simp only [if_true, Int.reduceEq, if_false]
    go_enter Tryd.func43, Tryd.ntmps43
    go_wp2_with fail
    refine (hf _).mono ?_
    rintro e w1 ⟨x, rfl, hx, n, rfl⟩
    have HX := hideF hx
    clear hx
    go_wp2_with fail
    first
      | refine (hs _ _ (unhideF HX)).mono ?_
      | refine (hc _ _ (unhideF HX)).mono ?_
    rintro e w2 ⟨rfl, hb⟩
    have HB := hideF (below_from hb)
    clear hb
    go_wp2
    go_ret
    exact ⟨rfl, unhideF HB⟩
end Go.Proofs.YtngdemhhcablmakDoor
