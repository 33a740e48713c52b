/-
  Contracts of library functions at this dump, laid by program.
-/
import Derived.Shelf.Small.Bits
import Derived.Shelf.Small.Wraps
import Derived.Shelf.Strconv.Itoa0
import Derived.Shelf.Sort.Plain
import Derived.Shelf.Bits.Mul64
import Derived.Ground.Names2Prog
import Derived.Shelf.Slices.SearchI
import Derived.Test.YtncbmkflilcdgahDoorProg
namespace Go.Proofs
open Go.Shelf
def Tryd.lays189_ren : Go.Shelf.Ren := ⟨fun | 189 => 108 | 125 => 113 | 257 => 127 | 128 => 136 | 129 => 137 | 294 => 144 | 295 => 145 | 296 => 146 | 297 => 147 | 298 => 148 | 299 => 149 | 216 => 150 | 300 => 151 | 301 => 152 | 328 => 159 | 329 => 154 | 330 => 155 | 331 => 160 | 332 => 161 | 215 => 138 | 343 => 163 | n => n, fun | 28 => 23 | 3 => 3 | 46 => 169 | 0 => 0 | 51 => 197 | 53 => 199 | 4 => 4 | 183 => 191 | 182 => 190 | 131 => 103 | 5 => 5 | 9 => 9 | 218 => 222 | 222 => 226 | 228 => 230 | 229 => 67 | n => n, fun | n => n⟩
theorem Tryd.lays189 : Go.Proofs.Lays.n189 Tryd.prog Tryd.lays189_ren := {
  mixed := by kernel_rfl
  f125 := Tryd.func113.trans (congrArg some (by kernel_rfl))
  f128 := Tryd.func136.trans (congrArg some (by kernel_rfl))
  f129 := Tryd.func137.trans (congrArg some (by kernel_rfl))
  f189 := Tryd.func108.trans (congrArg some (by kernel_rfl))
  f215 := Tryd.func138.trans (congrArg some (by kernel_rfl))
  f216 := Tryd.func150.trans (congrArg some (by kernel_rfl))
  f257 := Tryd.func127.trans (congrArg some (by kernel_rfl))
  f294 := Tryd.func144.trans (congrArg some (by kernel_rfl))
  f295 := Tryd.func145.trans (congrArg some (by kernel_rfl))
  f296 := Tryd.func146.trans (congrArg some (by kernel_rfl))
  f297 := Tryd.func147.trans (congrArg some (by kernel_rfl))
  f298 := Tryd.func148.trans (congrArg some (by kernel_rfl))
  f299 := Tryd.func149.trans (congrArg some (by kernel_rfl))
  f300 := Tryd.func151.trans (congrArg some (by kernel_rfl))
  f301 := Tryd.func152.trans (congrArg some (by kernel_rfl))
  f328 := Tryd.func159.trans (congrArg some (by kernel_rfl))
  f329 := Tryd.func154.trans (congrArg some (by kernel_rfl))
  f330 := Tryd.func155.trans (congrArg some (by kernel_rfl))
  f331 := Tryd.func160.trans (congrArg some (by kernel_rfl))
  f332 := Tryd.func161.trans (congrArg some (by kernel_rfl))
  f343 := Tryd.func163.trans (congrArg some (by kernel_rfl))
  t0 := Tryd.underlying0
  a0 := Tryd.isAgg0
  z0 := Tryd.sizeOf0
  v0 := Tryd.zeroValue0
  t3 := Tryd.underlying3
  a3 := Tryd.isAgg3
  z3 := Tryd.sizeOf3
  v3 := Tryd.zeroValue3
  t4 := Tryd.underlying4
  a4 := Tryd.isAgg4
  z4 := Tryd.sizeOf4
  v4 := Tryd.zeroValue4
  t5 := Tryd.underlying5
  a5 := Tryd.isAgg5
  z5 := Tryd.sizeOf5
  v5 := Tryd.zeroValue5
  t9 := Tryd.underlying9
  a9 := Tryd.isAgg9
  z9 := Tryd.sizeOf9
  v9 := Tryd.zeroValue9
  t28 := Tryd.underlying23
  a28 := Tryd.isAgg23
  z28 := Tryd.sizeOf23
  v28 := Tryd.zeroValue23
  t46 := Tryd.underlying169
  a46 := Tryd.isAgg169
  z46 := Tryd.sizeOf169
  v46 := Tryd.zeroValue169
  t51 := Tryd.underlying197
  a51 := Tryd.isAgg197
  z51 := Tryd.sizeOf197
  v51 := Tryd.zeroValue197
  t53 := Tryd.underlying199
  a53 := Tryd.isAgg199
  z53 := Tryd.sizeOf199
  v53 := Tryd.zeroValue199
  t131 := Tryd.underlying103
  a131 := Tryd.isAgg103
  z131 := Tryd.sizeOf103
  v131 := Tryd.zeroValue103
  t182 := Tryd.underlying190
  a182 := Tryd.isAgg190
  z182 := Tryd.sizeOf190
  v182 := Tryd.zeroValue190
  t183 := Tryd.underlying191
  a183 := Tryd.isAgg191
  z183 := Tryd.sizeOf191
  v183 := Tryd.zeroValue191
  t218 := Tryd.underlying222
  a218 := Tryd.isAgg222
  z218 := Tryd.sizeOf222
  v218 := Tryd.zeroValue222
  t222 := Tryd.underlying226
  a222 := Tryd.isAgg226
  z222 := Tryd.sizeOf226
  v222 := Tryd.zeroValue226
  t228 := Tryd.underlying230
  a228 := Tryd.isAgg230
  z228 := Tryd.sizeOf230
  v228 := Tryd.zeroValue230
  t229 := Tryd.underlying67
  a229 := Tryd.isAgg67
  z229 := Tryd.sizeOf67
  v229 := Tryd.zeroValue67 }
open Go.Sort Go.RowKit in
theorem Tryd.slices_Sort_int (blk off cap : Nat) (zs : List Int) (w : World) (hH : Holds (Value.int .i64) w blk off zs.toArray) (hblk : blk < w.heap.size) (hsz : zs.length < 4611686018427387904) :
    Calls Tryd.prog 108 #[.slice (some ⟨blk, off, none⟩) zs.length cap] w fun e w' =>
      e = .returned (.tuple #[]) ∧ ∃ n os, w' = grow (putRow (Value.int .i64) (Sort.ahead w n) blk off (zs.mergeSort fun x y => decide (x ≤ y)).toArray) os := Any.slices_Sort_int Tryd.lays189 blk off cap zs w hH hblk hsz
end Go.Proofs
