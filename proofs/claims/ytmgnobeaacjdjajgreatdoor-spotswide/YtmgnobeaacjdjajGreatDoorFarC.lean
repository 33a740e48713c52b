/-
  What lies too far off: the program's test, by contract. The middle of a pixel: the program's, by contract. A star that lies too far off, and how far a pixel is from a star: the program's, by contract.
-/
import Derived.Test.YtmgnobeaacjdjajGreatDoorSpRA
import Derived.Deep.CutRange
import Derived.Test.YtmgnobeaacjdjajGreatDoorKitA
import Derived.Test.YtmgnobeaacjdjajGreatDoorFrA
import Derived.Deep.QuietTactic
namespace Go.Proofs.YtmgnobeaacjdjajGreatDoor
open Go Go.RowKit

set_option maxRecDepth 100000 in
theorem farOff_any (n : Int) (w : World) : Calls Tryz.prog 52 #[.int .i64 n] w fun e w' => e = .returned (.bool (farB n)) ∧ w' = w := by
  by_cases h1 : n < -268435456
  · have t1 : decide (n < -268435456) = true := decide_eq_true h1
    have e : farB n = true := decide_eq_true (.inr h1)
    rw [e]
    go_enter Tryz.func52, Tryz.ntmps52
    go_wp2
    go_ret
    exact ⟨rfl, rfl⟩
  · have t1 : decide (n < -268435456) = false := decide_eq_false h1
    by_cases h2 : 268435456 < n
    · have t2 : decide (268435456 < n) = true := decide_eq_true h2
      have e : farB n = true := decide_eq_true (.inl h2)
      rw [e]
      go_enter Tryz.func52, Tryz.ntmps52
      go_wp2
      go_ret
      exact ⟨rfl, rfl⟩
    · have t2 : decide (268435456 < n) = false := decide_eq_false h2
      have e : farB n = false := decide_eq_false (by omega)
      rw [e]
      go_enter Tryz.func52, Tryz.ntmps52
      go_wp2
      go_ret
      exact ⟨rfl, rfl⟩
end Go.Proofs.YtmgnobeaacjdjajGreatDoor
namespace Go.Proofs.YtmgnobeaacjdjajGreatDoor
open Go Go.RowKit

set_option maxRecDepth 100000 in
theorem pxMiddle_any (n : Int) (h0 : 0 ≤ n) (h1 : n ≤ 100000) (w : World) : Calls Tryz.prog 81 #[.int .i64 n] w fun e w' => e = .returned (.int .i64 (1024 * n + 512)) ∧ w' = w := by
  have w1 : IntKind.i64.wrap (1024 * n) = 1024 * n := iwrap (by omega) (by omega)
  have w2 : IntKind.i64.wrap (1024 * n + 512) = 1024 * n + 512 := iwrap (by omega) (by omega)
  go_enter Tryz.func81, Tryz.ntmps81
  go_wp2
  go_ret
  exact ⟨rfl, rfl⟩
end Go.Proofs.YtmgnobeaacjdjajGreatDoor
namespace Go.Proofs.YtmgnobeaacjdjajGreatDoor
open Go Go.RowKit

set_option maxRecDepth 100000 in
theorem starOff_any (s : Sta) (w : World) : Calls Tryz.prog 17 #[.agg #[.int .i64 s.x, .int .i64 s.y, .int .i64 s.lt]] w fun e w' => e = .returned (.bool (farB s.x || farB s.y)) ∧ Below w.heap.size w w' := by
  have h1 := fun u => farOff_any s.x u
  have h2 := fun u => farOff_any s.y u
  obtain ⟨q1, e1⟩ : ∃ q, farB s.x = q := ⟨_, rfl⟩
  obtain ⟨q2, e2⟩ : ∃ q, farB s.y = q := ⟨_, rfl⟩
  rw [e1] at h1 ⊢
  rw [e2] at h2 ⊢
  obtain ⟨c0, c1, c2⟩ := pic_three (alloc_last w (.cells #[.int .i64 s.x, .int .i64 s.y, .int .i64 s.lt] 24))
  have HB := hideR (below_a w (.cells #[.int .i64 s.x, .int .i64 s.y, .int .i64 s.lt] 24))
  clear e1 e2
  go_enter Tryz.func17, Tryz.ntmps17
  go_wp2_with fail
  refine (h1 _).mono ?_
  rintro e w1 ⟨rfl, rfl⟩
  cases q1 with
  | true =>
    go_wp2
    go_ret
    exact ⟨rfl, unhideR HB⟩
  | false =>
    go_wp2_with fail
    refine (h2 _).mono ?_
    rintro e w1 ⟨rfl, rfl⟩
    go_wp2
    go_ret
    exact ⟨rfl, unhideR HB⟩
set_option maxRecDepth 100000 in
set_option maxHeartbeats 1600000 in
theorem starFar_any (s : Sta) (x y : Int) (hx0 : 0 ≤ x) (hx1 : x ≤ 1000) (hy0 : 0 ≤ y) (hy1 : y ≤ 1000) (hf1 : farB s.x = false) (hf2 : farB s.y = false) (w : World) : Calls Tryz.prog 53 #[.agg #[.int .i64 s.x, .int .i64 s.y, .int .i64 s.lt], .int .i64 x, .int .i64 y] w fun e w' => e = .returned (.int .i64 (distV s x y)) ∧ Below w.heap.size w w' := by
  have f1 := of_decide_eq_false hf1
  have f2 := of_decide_eq_false hf2
  have hm1 := fun W => pxMiddle_any x (by omega) (by omega) W
  have hm2 := fun W => pxMiddle_any y (by omega) (by omega) W
  unfold distV
  obtain ⟨mx, hmx⟩ : ∃ mx, 1024 * x + 512 = mx := ⟨_, rfl⟩
  obtain ⟨my, hmy⟩ : ∃ my, 1024 * y + 512 = my := ⟨_, rfl⟩
  rw [hmx] at hm1 ⊢
  rw [hmy] at hm2 ⊢
  obtain ⟨da, hda⟩ : ∃ da, mx - s.x = da := ⟨_, rfl⟩
  obtain ⟨db, hdb⟩ : ∃ db, my - s.y = db := ⟨_, rfl⟩
  have hs1 := sq_in (a := da) (by omega) (by omega)
  have hs2 := sq_in (a := db) (by omega) (by omega)
  rw [hda, hdb]
  have wa : IntKind.i64.wrap (mx - s.x) = da := by rw [hda]; exact iwrap (by omega) (by omega)
  have wb : IntKind.i64.wrap (my - s.y) = db := by rw [hdb]; exact iwrap (by omega) (by omega)
  obtain ⟨qa, hqa⟩ : ∃ qa, da * da = qa := ⟨_, rfl⟩
  obtain ⟨qb, hqb⟩ : ∃ qb, db * db = qb := ⟨_, rfl⟩
  have wqa : IntKind.i64.wrap (da * da) = qa := by rw [hqa]; rw [hqa] at hs1; exact iwrap (by omega) (by omega)
  have wqb : IntKind.i64.wrap (db * db) = qb := by rw [hqb]; rw [hqb] at hs2; exact iwrap (by omega) (by omega)
  rw [hqa] at hs1 ⊢
  rw [hqb] at hs2 ⊢
  have wf : IntKind.i64.wrap (qa + qb) = qa + qb := iwrap (by omega) (by omega)
  obtain ⟨c0, c1, c2⟩ := pic_three (alloc_last w (.cells #[.int .i64 s.x, .int .i64 s.y, .int .i64 s.lt] 24))
  have HB := hideR (below_a w (.cells #[.int .i64 s.x, .int .i64 s.y, .int .i64 s.lt] 24))
  clear hmx hmy hda hdb hqa hqb f1 f2 hf1 hf2 hs1 hs2
  go_enter Tryz.func53, Tryz.ntmps53
  go_wp2
  go_quiet (first | (go_at_call 81; exact Calls.quiet_of_same (hm1 _)) | (go_at_call 81; exact Calls.quiet_of_same (hm2 _)))
  have HB2 := hideR (below_go (unhideR HB) (drawn_below _ nq))
  clear HB hm1 hm2
  go_wp2
  go_ret
  exact ⟨rfl, unhideR HB2⟩
end Go.Proofs.YtmgnobeaacjdjajGreatDoor
