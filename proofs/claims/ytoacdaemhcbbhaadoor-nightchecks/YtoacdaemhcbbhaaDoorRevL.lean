/-
  slices.Reverse at this dump, laid by program.
-/
import Derived.Shelf.SlicesQ.Reverse
import Derived.Test.YtoacdaemhcbbhaaDoorProg
namespace Go.Proofs
open Go.Shelf
def Tryd.revSl_ren : Go.Shelf.Ren := ⟨fun | 35 => 48 | n => n, fun | 22 => 25 | 23 => 37 | 3 => 3 | 4 => 4 | 0 => 0 | n => n, fun | n => n⟩
theorem Tryd.revSl : Go.Proofs.SlLaysE0.n35 Tryd.prog Tryd.revSl_ren := {
  mixed := by kernel_rfl
  f35 := ⟨Tryd.f48.name, by decide, Tryd.func48.trans (congrArg some (by kernel_rfl))⟩
  t0 := Tryd.underlying0
  a0 := Tryd.isAgg0
  z0 := Tryd.sizeOf0
  v0 := Tryd.zeroValue0
  t3 := Tryd.underlying3
  a3 := Tryd.isAgg3
  z3 := Tryd.sizeOf3
  v3 := Tryd.zeroValue3
  t4 := Tryd.underlying4
  a4 := Tryd.isAgg4
  z4 := Tryd.sizeOf4
  v4 := Tryd.zeroValue4
  t22 := Tryd.underlying25
  a22 := Tryd.isAgg25
  z22 := Tryd.sizeOf25
  v22 := Tryd.zeroValue25 }
end Go.Proofs
