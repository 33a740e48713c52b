/-
  Counting in a row, one more. Nothing of the program.
-/
namespace Go.Proofs.YtgmaganajfcpbaiDoor
theorem countP_next (f : Int → Bool) {l : List Int} {j : Nat} (h : j < l.length) : (l.take (j + 1)).countP f = (l.take j).countP f + if f (l.getD j 0) = true then 1 else 0 := by
  have e : l.take (j + 1) = l.take j ++ [l.getD j 0] := by
    rw [List.take_add_one, List.getElem?_eq_getElem h]
    simp [List.getD, List.getElem?_eq_getElem h]
  rw [e, List.countP_append, List.countP_singleton]
end Go.Proofs.YtgmaganajfcpbaiDoor
