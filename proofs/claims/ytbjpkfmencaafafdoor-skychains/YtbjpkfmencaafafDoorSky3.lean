/-
  The document's turn of a vector, by contract.
-/
import Derived.Test.YtbjpkfmencaafafDoorKit0
import Derived.Test.YtbjpkfmencaafafDoorSinIs
namespace Go.Proofs.YtbjpkfmencaafafDoor
open Go Go.RowKit

def tuA (a b s c : Nat) : FE := .op .sub (mE a c) (mE b s)
def tuB (a b s c : Nat) : FE := .op .add (mE a s) (mE b c)
/-- a turn's answer. -/
def TurnIs (k d : Int) (x y z : Nat) (v : Value) : Prop :=
  if k = 0 then VSet (.num x) (tuA y z (sinV d) (cosV d)) (tuB y z (sinV d) (cosV d)) v
  else if k = 1 then VSet (tuB z x (sinV d) (cosV d)) (.num y) (tuA z x (sinV d) (cosV d)) v
  else VSet (tuA x y (sinV d) (cosV d)) (tuB x y (sinV d) (cosV d)) (.num z) v
theorem tu_a {a b s c p q r : Nat} (h1 : FOp .mul a c p) (h2 : FOp .mul b s q) (h3 : FOp .sub p q r) : Ev (tuA a b s c) r := .op (ev_m h1) (ev_m h2) h3
theorem tu_b {a b s c p q r : Nat} (h1 : FOp .mul a s p) (h2 : FOp .mul b c q) (h3 : FOp .add p q r) : Ev (tuB a b s c) r := .op (ev_m h1) (ev_m h2) h3
set_option maxHeartbeats 8000000 in
theorem turnBy_any (k d : Int) (x y z : Nat) (w : World) : Calls Tryd.prog 10 #[.agg #[.int .i64 k, .int .i64 d], .agg #[.float .f64 x, .float .f64 y, .float .f64 z]] w fun e w' => ∃ v, e = .returned v ∧ TurnIs k d x y z v ∧ Below w.heap.size w w' := by
  have hsf := run_store_float Tryd.prog
  have HP : (k = 0 ∧ HeldR (∀ r q, Ev (tuA y z (sinV d) (cosV d)) r → Ev (tuB y z (sinV d) (cosV d)) q → TurnIs k d x y z (.agg #[.float .f64 x, .float .f64 r, .float .f64 q]))) ∨ (k = 1 ∧ HeldR (∀ r q, Ev (tuA z x (sinV d) (cosV d)) r → Ev (tuB z x (sinV d) (cosV d)) q → TurnIs k d x y z (.agg #[.float .f64 q, .float .f64 y, .float .f64 r]))) ∨ (((k == 0) = false ∧ (k == 1) = false) ∧ HeldR (∀ r q, Ev (tuA x y (sinV d) (cosV d)) r → Ev (tuB x y (sinV d) (cosV d)) q → TurnIs k d x y z (.agg #[.float .f64 r, .float .f64 q, .float .f64 z]))) := by
    by_cases h0 : k = 0
    · refine .inl ⟨h0, hideR fun r q hr hq => ?_⟩
      unfold TurnIs
      rw [if_pos h0]
      exact ⟨_, _, _, rfl, .num _, hr, hq⟩
    · by_cases h1 : k = 1
      · refine .inr (.inl ⟨h1, hideR fun r q hr hq => ?_⟩)
        unfold TurnIs
        rw [if_neg h0, if_pos h1]
        exact ⟨_, _, _, rfl, hq, .num _, hr⟩
      · refine .inr (.inr ⟨⟨by simp [h0], by simp [h1]⟩, hideR fun r q hr hq => ?_⟩)
        unfold TurnIs
        rw [if_neg h0, if_neg h1]
        exact ⟨_, _, _, rfl, hr, hq, .num _⟩
  generalize HT : TurnIs k d x y z = T at *
  replace HT := hideR HT
  go_enter Tryd.func10, Tryd.ntmps10
  go_wp2_with fail
  refine (sinCos_is _ _).mono ?_
  rintro e w1 ⟨rfl, k1⟩
  obtain ⟨h0, h1, h2, hB1⟩ := three_blocks k1
  have HW := hideR hB1
  have A0 := hideR h0
  have A1 := hideR h1
  have A2 := hideR h2
  clear k1 h0 h1 h2 hB1 HT
  obtain ⟨⟨c0, c1⟩, _⟩ := pair_at (unhideR A0)
  obtain ⟨⟨d0, d1, d2⟩, f0, f1, f2⟩ := three_at (unhideR A1)
  obtain ⟨⟨g0, g1, g2⟩, i0, i1, i2⟩ := three_at (unhideR A2)
  generalize sinV d = s at *
  generalize cosV d = c at *
  rcases HP with ⟨rfl, HP⟩ | ⟨rfl, HP⟩ | ⟨⟨e0, e1⟩, HP⟩
  all_goals
    go_wp2_with fail
    refine upon_float four_mul ?_
    intro p1 n1 q1
    go_wp2_with fail
    refine upon_float four_mul ?_
    intro p2 n2 q2
    go_wp2_with fail
    refine (less_any _ _ _ _).mono ?_
    rintro e w2 ⟨r1, rfl, ⟨u1, v1, t1⟩, n3, rfl⟩
    go_wp2_with fail
    refine (plus_any _ _ _ _).mono ?_
    rintro e w2 ⟨r2, rfl, ⟨u2, v2, t2⟩, n4, rfl⟩
    go_wp2
    simp [bodyPost, results, Tryd.results10, go_sem, g0, g1, g2]
    exact ⟨unhideR HP _ _ (tu_a q1 v1 t1) (tu_b q2 v2 t2), below_three (below_drewN (unhideR HW) _) (by omega) _ _ _⟩
end Go.Proofs.YtbjpkfmencaafafDoor
