/-
  No cell of these rows narrows 'for every input' (looked for: loops, veiled, ifaces, maps, wideKeys, modest, calm, conditions, laid).
  DERIVED. THE GIVEN ROWS OF THIS SEAT. 6 by the template 'for every input the law returns true; each argument reads behind the call as it read before'; 0 by the template 'total and deterministic' (their statements: YtbobnmaeiohnnadTotals.lean).
  GIVEN WITH THE SEED: the statements are not yours to turn. If you find one false, say at which input.
  Laid BY PROGRAM, IN A SANDBOX (cutbox-rows.mjs): the forced cells as the released guide's own fill.sh prints them over the translation f4e3f592d5b05a78… (all of the seat's roots in one cut). By AI agents, Wed Nov 11 2026. No macro, syntax, notation, axiom, sorry.
-/
import Derived.Test.YtbobnmaeiohnnadChecked
import GoSem.Claim
import GoSem.ClaimJoined
import GoSem.ClaimMapViews
import Derived.JoinedTies
import Derived.KernelRfl
namespace Go.Proofs.Ytbobnmaeiohnnad
/- THE CELL 'sum', in the pinned program and in every row, IS THE sha256 OF THE DUMP (.gsa) THAT YtbobnmaeiohnnadProg.lean LOADS. Nothing in Lean hashes anything: it is a label: what it is worth is what the hold of that sum in a sandbox is worth. -/
noncomputable def Try.pinned : Pinned := { name := "ytbobnmaeiohnnad", sum := "f4e3f592d5b05a785a08517c018d6e74c506bf7f76347717da29bb7d771c97f6", checked := Try.checked }
namespace Rows
def none {H : Type} : Left H := { results := [], args := [] }

/-- 'meridianlaw1.BitsAngles': WHATEVER THE INPUT: true; the input reads as it did. -/
def bitsAnglesSpec : ChangeSpec := { name := "bitsAngles", fn := fun _ => fun
  | [d1, d2] => { results := [.lit (.bool true)], args := [d1, d2] }
  | _ => none }
def bitsAnglesRow : OpenClaim := { program := "ytbobnmaeiohnnad", sum := "f4e3f592d5b05a785a08517c018d6e74c506bf7f76347717da29bb7d771c97f6", func := "meridian/meridianlaw1.BitsAngles", spec := "bitsAngles", inPlace := ["math.Float64bits", "math.Float64frombits"], apart := false }
def BitsAnglesSaid : Prop := bitsAnglesRow.holds Try.pinned (OpenSpec.ofChange bitsAnglesSpec)

/-- ITS FALSE NEIGHBOUR: 'it returns false'. Refute it at one input. -/
def bitsAnglesWrong : ChangeSpec := { name := "bitsAngles", fn := fun _ => fun
  | [d1, d2] => { results := [.lit (.bool false)], args := [d1, d2] }
  | _ => none }
def BitsAnglesWrongFalsely : Prop := bitsAnglesRow.holds Try.pinned (OpenSpec.ofChange bitsAnglesWrong)

/-- 'meridianlaw1.BitsNear': WHATEVER THE INPUT: true; the input reads as it did. -/
def bitsNearSpec : ChangeSpec := { name := "bitsNear", fn := fun _ => fun
  | [d1, d2] => { results := [.lit (.bool true)], args := [d1, d2] }
  | _ => none }
def bitsNearRow : OpenClaim := { program := "ytbobnmaeiohnnad", sum := "f4e3f592d5b05a785a08517c018d6e74c506bf7f76347717da29bb7d771c97f6", func := "meridian/meridianlaw1.BitsNear", spec := "bitsNear", inPlace := ["math.Float64bits", "math.Float64frombits"], apart := false }
def BitsNearSaid : Prop := bitsNearRow.holds Try.pinned (OpenSpec.ofChange bitsNearSpec)

/-- ITS FALSE NEIGHBOUR: 'it returns false'. Refute it at one input. -/
def bitsNearWrong : ChangeSpec := { name := "bitsNear", fn := fun _ => fun
  | [d1, d2] => { results := [.lit (.bool false)], args := [d1, d2] }
  | _ => none }
def BitsNearWrongFalsely : Prop := bitsNearRow.holds Try.pinned (OpenSpec.ofChange bitsNearWrong)

/-- 'meridianlaw2.SpinTimes': WHATEVER THE INPUT: true; the input reads as it did. -/
def spinTimesSpec : ChangeSpec := { name := "spinTimes", fn := fun _ => fun
  | [d1, d2] => { results := [.lit (.bool true)], args := [d1, d2] }
  | _ => none }
def spinTimesRow : OpenClaim := { program := "ytbobnmaeiohnnad", sum := "f4e3f592d5b05a785a08517c018d6e74c506bf7f76347717da29bb7d771c97f6", func := "meridian/meridianlaw2.SpinTimes", spec := "spinTimes", inPlace := ["math.Float64bits", "math.sqrt", "math.Float64frombits"], apart := false }
def SpinTimesSaid : Prop := spinTimesRow.holds Try.pinned (OpenSpec.ofChange spinTimesSpec)

/-- ITS FALSE NEIGHBOUR: 'it returns false'. Refute it at one input. -/
def spinTimesWrong : ChangeSpec := { name := "spinTimes", fn := fun _ => fun
  | [d1, d2] => { results := [.lit (.bool false)], args := [d1, d2] }
  | _ => none }
def SpinTimesWrongFalsely : Prop := spinTimesRow.holds Try.pinned (OpenSpec.ofChange spinTimesWrong)

/-- 'meridianlaw2.SpinTurns': WHATEVER THE INPUT: true; the input reads as it did. -/
def spinTurnsSpec : ChangeSpec := { name := "spinTurns", fn := fun _ => fun
  | [d1, d2, d3, d4] => { results := [.lit (.bool true)], args := [d1, d2, d3, d4] }
  | _ => none }
def spinTurnsRow : OpenClaim := { program := "ytbobnmaeiohnnad", sum := "f4e3f592d5b05a785a08517c018d6e74c506bf7f76347717da29bb7d771c97f6", func := "meridian/meridianlaw2.SpinTurns", spec := "spinTurns", inPlace := ["math.sqrt", "math.Float64bits", "math.Float64frombits"], unfollowed := true, recurses := true, apart := false }
def SpinTurnsSaid : Prop := spinTurnsRow.holds Try.pinned (OpenSpec.ofChange spinTurnsSpec)

/-- ITS FALSE NEIGHBOUR: 'it returns false'. Refute it at one input. -/
def spinTurnsWrong : ChangeSpec := { name := "spinTurns", fn := fun _ => fun
  | [d1, d2, d3, d4] => { results := [.lit (.bool false)], args := [d1, d2, d3, d4] }
  | _ => none }
def SpinTurnsWrongFalsely : Prop := spinTurnsRow.holds Try.pinned (OpenSpec.ofChange spinTurnsWrong)

/-- 'meridianlaw2.SpinChains': WHATEVER THE INPUT: true; the input reads as it did. -/
def spinChainsSpec : ChangeSpec := { name := "spinChains", fn := fun _ => fun
  | [d] => { results := [.lit (.bool true)], args := [d] }
  | _ => none }
def spinChainsRow : OpenClaim := { program := "ytbobnmaeiohnnad", sum := "f4e3f592d5b05a785a08517c018d6e74c506bf7f76347717da29bb7d771c97f6", func := "meridian/meridianlaw2.SpinChains", spec := "spinChains", inPlace := ["math.sqrt", "math.Float64bits", "math.Float64frombits"], apart := false }
def SpinChainsSaid : Prop := spinChainsRow.holds Try.pinned (OpenSpec.ofChange spinChainsSpec)

/-- ITS FALSE NEIGHBOUR: 'it returns false'. Refute it at one input. -/
def spinChainsWrong : ChangeSpec := { name := "spinChains", fn := fun _ => fun
  | [d] => { results := [.lit (.bool false)], args := [d] }
  | _ => none }
def SpinChainsWrongFalsely : Prop := spinChainsRow.holds Try.pinned (OpenSpec.ofChange spinChainsWrong)

/-- 'meridianlaw2.SpinGood': WHATEVER THE INPUT: true; the input reads as it did. -/
def spinGoodSpec : ChangeSpec := { name := "spinGood", fn := fun _ => fun
  | [d1, d2, d3, d4, d5] => { results := [.lit (.bool true)], args := [d1, d2, d3, d4, d5] }
  | _ => none }
def spinGoodRow : OpenClaim := { program := "ytbobnmaeiohnnad", sum := "f4e3f592d5b05a785a08517c018d6e74c506bf7f76347717da29bb7d771c97f6", func := "meridian/meridianlaw2.SpinGood", spec := "spinGood", inPlace := ["math.sqrt", "math.Float64bits", "math.Float64frombits"], unfollowed := true, recurses := true, apart := false }
def SpinGoodSaid : Prop := spinGoodRow.holds Try.pinned (OpenSpec.ofChange spinGoodSpec)

/-- ITS FALSE NEIGHBOUR: 'it returns false'. Refute it at one input. -/
def spinGoodWrong : ChangeSpec := { name := "spinGood", fn := fun _ => fun
  | [d1, d2, d3, d4, d5] => { results := [.lit (.bool false)], args := [d1, d2, d3, d4, d5] }
  | _ => none }
def SpinGoodWrongFalsely : Prop := spinGoodRow.holds Try.pinned (OpenSpec.ofChange spinGoodWrong)

/- THE SECOND FORM. 'bulk': how many values and letters a reading holds, each counted each time it is reached (what is shared counts as often as it is met; a slice's spare places count too). A statement '..UptoSaid' is the law's where the arguments, and the package variables that the reading takes, are together of bulk at most 1048576: NARROWER than '..Said'. Prove '..Said' where nothing that the law and all that it calls make is longer than what came in: it says more and counts as full. Else prove '..UptoSaid'. A law counts once. -/
mutual
def uptoBulk {H : Type} : DataW H → Nat
  | .lit (.string bytes) => bytes.length + 1
  | .lit _ => 1
  | .nil => 1
  | .ptr d => uptoBulk d + 1
  | .slice elems spare => uptoBulkAll elems + uptoBulkAll spare + 1
  | .agg parts => uptoBulkAll parts + 1
  | .iface _ d => uptoBulk d + 1
  | .map entries => uptoBulkEntries entries + 1
  | .held _ => 1
def uptoBulkAll {H : Type} : List (DataW H) → Nat
  | [] => 0
  | d :: r => uptoBulk d + uptoBulkAll r
def uptoBulkEntries {H : Type} : List (Lit × DataW H) → Nat
  | [] => 0
  | x :: r => uptoBulkEntry x + uptoBulkEntries r
def uptoBulkEntry {H : Type} : Lit × DataW H → Nat
  | (.string bytes, d) => bytes.length + uptoBulk d + 1
  | (_, d) => uptoBulk d + 1
 end
def uptoSmall : (H : Type) → List (DataW H) → Bool := fun _ ds => decide (uptoBulkAll ds ≤ 1048576)
def OpenSpec.upto (s : _root_.Go.ChangeSpec) : _root_.Go.OpenSpec := { _root_.Go.OpenSpec.ofChange s with cond := some uptoSmall }

/-- 'meridianlaw1.BitsAngles', WHERE WHAT IT READS IS OF BULK AT MOST 1048576: true; the input reads as it did. -/
def bitsAnglesUptoRow : OpenClaim := { program := "ytbobnmaeiohnnad", sum := "f4e3f592d5b05a785a08517c018d6e74c506bf7f76347717da29bb7d771c97f6", func := "meridian/meridianlaw1.BitsAngles", spec := "bitsAngles", inPlace := ["math.Float64bits", "math.Float64frombits"], apart := false, narrowed := true }
def BitsAnglesUptoSaid : Prop := bitsAnglesUptoRow.holds Try.pinned (OpenSpec.upto bitsAnglesSpec)

/-- 'meridianlaw1.BitsNear', WHERE WHAT IT READS IS OF BULK AT MOST 1048576: true; the input reads as it did. -/
def bitsNearUptoRow : OpenClaim := { program := "ytbobnmaeiohnnad", sum := "f4e3f592d5b05a785a08517c018d6e74c506bf7f76347717da29bb7d771c97f6", func := "meridian/meridianlaw1.BitsNear", spec := "bitsNear", inPlace := ["math.Float64bits", "math.Float64frombits"], apart := false, narrowed := true }
def BitsNearUptoSaid : Prop := bitsNearUptoRow.holds Try.pinned (OpenSpec.upto bitsNearSpec)

/-- 'meridianlaw2.SpinTimes', WHERE WHAT IT READS IS OF BULK AT MOST 1048576: true; the input reads as it did. -/
def spinTimesUptoRow : OpenClaim := { program := "ytbobnmaeiohnnad", sum := "f4e3f592d5b05a785a08517c018d6e74c506bf7f76347717da29bb7d771c97f6", func := "meridian/meridianlaw2.SpinTimes", spec := "spinTimes", inPlace := ["math.Float64bits", "math.sqrt", "math.Float64frombits"], apart := false, narrowed := true }
def SpinTimesUptoSaid : Prop := spinTimesUptoRow.holds Try.pinned (OpenSpec.upto spinTimesSpec)

/-- 'meridianlaw2.SpinTurns', WHERE WHAT IT READS IS OF BULK AT MOST 1048576: true; the input reads as it did. -/
def spinTurnsUptoRow : OpenClaim := { program := "ytbobnmaeiohnnad", sum := "f4e3f592d5b05a785a08517c018d6e74c506bf7f76347717da29bb7d771c97f6", func := "meridian/meridianlaw2.SpinTurns", spec := "spinTurns", inPlace := ["math.sqrt", "math.Float64bits", "math.Float64frombits"], unfollowed := true, recurses := true, apart := false, narrowed := true }
def SpinTurnsUptoSaid : Prop := spinTurnsUptoRow.holds Try.pinned (OpenSpec.upto spinTurnsSpec)

/-- 'meridianlaw2.SpinChains', WHERE WHAT IT READS IS OF BULK AT MOST 1048576: true; the input reads as it did. -/
def spinChainsUptoRow : OpenClaim := { program := "ytbobnmaeiohnnad", sum := "f4e3f592d5b05a785a08517c018d6e74c506bf7f76347717da29bb7d771c97f6", func := "meridian/meridianlaw2.SpinChains", spec := "spinChains", inPlace := ["math.sqrt", "math.Float64bits", "math.Float64frombits"], apart := false, narrowed := true }
def SpinChainsUptoSaid : Prop := spinChainsUptoRow.holds Try.pinned (OpenSpec.upto spinChainsSpec)

/-- 'meridianlaw2.SpinGood', WHERE WHAT IT READS IS OF BULK AT MOST 1048576: true; the input reads as it did. -/
def spinGoodUptoRow : OpenClaim := { program := "ytbobnmaeiohnnad", sum := "f4e3f592d5b05a785a08517c018d6e74c506bf7f76347717da29bb7d771c97f6", func := "meridian/meridianlaw2.SpinGood", spec := "spinGood", inPlace := ["math.sqrt", "math.Float64bits", "math.Float64frombits"], unfollowed := true, recurses := true, apart := false, narrowed := true }
def SpinGoodUptoSaid : Prop := spinGoodUptoRow.holds Try.pinned (OpenSpec.upto spinGoodSpec)

end Rows
end Go.Proofs.Ytbobnmaeiohnnad
