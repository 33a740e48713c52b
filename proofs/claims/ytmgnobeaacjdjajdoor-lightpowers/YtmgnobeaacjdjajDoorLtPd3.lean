/-
  The program's Best, by contract.
-/
import Derived.Test.YtmgnobeaacjdjajDoorLtPl0
import Derived.Test.YtmgnobeaacjdjajDoorNanA
namespace Go.Proofs.YtmgnobeaacjdjajDoor
open Go Go.RowKit

theorem nan_eqF (x : Nat) : nanI x = !eqF x := by
  rw [← order_selfI x]
  unfold eqF
  rfl
def BtPost (X : List Nat) (n : Nat) (w : World) (e : Ending) (w' : World) : Prop := e = .returned (.tuple #[.int .i64 (if bestF X n < 0 then 0 else bestF X n), .bool (decide (0 ≤ bestF X n))]) ∧ Below w.heap.size w w'
set_option maxRecDepth 100000 in
set_option maxHeartbeats 3200000 in
theorem best_any (w : World) (ad : Option Addr) (cap : Nat) (X : List Nat) (hX : FCame w ad X) (hl : X.length ≤ 4000) : Calls Tryd.prog 17 #[.slice ad X.length cap] w (BtPost X X.length w) := by
  have HX := hideR hX
  obtain ⟨n, hn⟩ : ∃ n, X.length = n := ⟨_, rfl⟩
  have HN := hideR hn
  rw [hn] at hl ⊢
  clear hX hn
  go_enter Tryd.func17, Tryd.ntmps17
  go_wp2
  go_loop [4, 5, 10] (fun bv sv iv => ∃ k : Nat, k ≤ n ∧ iv = .int .i64 (k : Nat) ∧ bv = .int .i64 (if bestF X k < 0 then 0 else bestF X k) ∧ sv = .bool (decide (0 ≤ bestF X k))) (fun _ _ iv => n + 1 - (intOf iv).toNat)
  case atStart => exact ⟨0, by omega, rfl, rfl, rfl⟩
  case round =>
    obtain ⟨k, hk, rfl, rfl, rfl⟩ := hrel
    by_cases hlt : k < n
    · have tk : decide (k < n) = true := decide_eq_true hlt
      have jk : (k : Int) < (n : Int) := by omega
      have wk : IntKind.i64.wrap ((k : Int) + 1) = ((k + 1 : Nat) : Int) := by rw [show (k : Int) + 1 = ((k + 1 : Nat) : Int) by omega]; exact iwrap (by omega) (by omega)
      obtain ⟨b1, o1, rfl, _, x1⟩ := (unhideR HX).at_ k (by rw [unhideR HN]; exact hlt)
      have HNb : HeldR (bestF X (k + 1) = if eqF (X.getD k 0) && (decide (bestF X k < 0) || gtF (X.getD k 0) (X.getD (bestF X k).toNat 0)) then (k : Int) else bestF X k) := hideR rfl
      have hr := bestF_range X k
      have HXj : HeldR (∀ j, j < n → w.cell? ⟨b1, o1 + j, none⟩ = some (.float .f64 (X.getD j 0))) := hideR (fun j hj => by
        obtain ⟨b9, o9, e9, _, x9⟩ := (unhideR HX).at_ j (by rw [unhideR HN]; exact hj)
        cases e9
        exact x9)
      have hni := isNaN_any (X.getD k 0) w
      rw [nan_eqF] at hni
      generalize bestF X k = B at *
      generalize X.getD k 0 = xk at *
      cases te : eqF xk with
      | false =>
        rw [te] at hni HNb
        have HNn : HeldR (bestF X (k + 1) = B) := hideR (by rw [unhideR HNb]; rfl)
        clear HNb te
        by_cases h0 : B < 0
        · have e1 : (if B < 0 then (0 : Int) else B) = 0 := if_pos h0
          have e2 : decide (0 ≤ B) = false := decide_eq_false (by omega)
          rw [e1, e2]
          clear hr
          go_wp2_with fail
          refine hni.mono ?_
          rintro e u ⟨rfl, rfl⟩
          clear hni
          go_wp2
          exact ⟨⟨k + 1, by omega, by first | rfl | go_num, by rw [unhideR HNn, e1], by rw [unhideR HNn, e2]⟩, by simp [intOf]; omega⟩
        · have e1 : (if B < 0 then (0 : Int) else B) = B := if_neg h0
          have e2 : decide (0 ≤ B) = true := decide_eq_true (by omega)
          rw [e1, e2]
          clear hr
          go_wp2_with fail
          refine hni.mono ?_
          rintro e u ⟨rfl, rfl⟩
          clear hni
          go_wp2
          exact ⟨⟨k + 1, by omega, by first | rfl | go_num, by rw [unhideR HNn, e1], by rw [unhideR HNn, e2]⟩, by simp [intOf]; omega⟩
      | true =>
        rw [te] at hni HNb
        by_cases h0 : B < 0
        · have e1 : (if B < 0 then (0 : Int) else B) = 0 := if_pos h0
          have e2 : decide (0 ≤ B) = false := decide_eq_false (by omega)
          have HNn : HeldR (bestF X (k + 1) = (k : Int)) := hideR (by rw [unhideR HNb, decide_eq_true h0]; rfl)
          have f1 : (if (k : Int) < 0 then (0 : Int) else (k : Int)) = (k : Int) := if_neg (by omega)
          have f2 : decide (0 ≤ (k : Int)) = true := decide_eq_true (by omega)
          rw [e1, e2]
          clear hr HNb te
          go_wp2_with fail
          refine hni.mono ?_
          rintro e u ⟨rfl, rfl⟩
          clear hni
          go_wp2
          exact ⟨⟨k + 1, by omega, by first | rfl | go_num, by rw [unhideR HNn, f1], by rw [unhideR HNn, f2]⟩, by simp [intOf]; omega⟩
        · obtain ⟨j, rfl⟩ : ∃ j : Nat, B = (j : Nat) := ⟨B.toNat, by omega⟩
          have e1 : (if (j : Int) < 0 then (0 : Int) else (j : Int)) = (j : Int) := if_neg h0
          have e2 : decide (0 ≤ (j : Int)) = true := decide_eq_true (by omega)
          have xj := unhideR HXj j (by omega)
          have jn : (j : Int) < (n : Int) := by omega
          rw [Int.toNat_natCast] at HNb
          generalize X.getD j 0 = vj at *
          rw [e1, e2]
          cases tg : gtF xk vj with
          | true =>
            have tg' : (FloatKind.f64.format.order xk vj == some .gt) = true := tg
            have HNn : HeldR (bestF X (k + 1) = (k : Int)) := hideR (by rw [unhideR HNb, tg]; simp)
            have f1 : (if (k : Int) < 0 then (0 : Int) else (k : Int)) = (k : Int) := if_neg (by omega)
            have f2 : decide (0 ≤ (k : Int)) = true := decide_eq_true (by omega)
            clear hr HNb te tg
            go_wp2_with fail
            refine hni.mono ?_
            rintro e u ⟨rfl, rfl⟩
            clear hni
            go_wp2
            exact ⟨⟨k + 1, by omega, by first | rfl | go_num, by rw [unhideR HNn, f1], by rw [unhideR HNn, f2]⟩, by simp [intOf]; omega⟩
          | false =>
            have tg' : (FloatKind.f64.format.order xk vj == some .gt) = false := tg
            have HNn : HeldR (bestF X (k + 1) = (j : Int)) := hideR (by rw [unhideR HNb, tg, decide_eq_false h0]; simp)
            clear hr HNb te tg
            go_wp2_with fail
            refine hni.mono ?_
            rintro e u ⟨rfl, rfl⟩
            clear hni
            go_wp2
            exact ⟨⟨k + 1, by omega, by first | rfl | go_num, by rw [unhideR HNn, e1], by rw [unhideR HNn, e2]⟩, by simp [intOf]; omega⟩
    · obtain rfl : k = n := by omega
      have tk : decide (k < k) = false := decide_eq_false hlt
      have HF : HeldR (BtPost X k w (.returned (.tuple #[.int .i64 (if bestF X k < 0 then 0 else bestF X k), .bool (decide (0 ≤ bestF X k))])) w) := hideR ⟨rfl, Below.refl _ _⟩
      generalize (if bestF X k < 0 then (0 : Int) else bestF X k) = bv at HF ⊢
      generalize decide (0 ≤ bestF X k) = sv at HF ⊢
      go_wp2
      go_ret2
      exact unhideR HF
theorem best_ok : BestOK := fun w ad cap X hX hl => best_any w ad cap X hX hl
end Go.Proofs.YtmgnobeaacjdjajDoor
