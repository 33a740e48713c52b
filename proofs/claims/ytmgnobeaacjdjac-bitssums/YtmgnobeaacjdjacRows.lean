/-
  No cell of these rows narrows 'for every input' (looked for: loops, veiled, ifaces, maps, wideKeys, modest, calm, conditions, laid).
  DERIVED. THE GIVEN ROWS OF THIS SEAT. 5 by the template 'for every input the law returns true; each argument reads behind the call as it read before'; 0 by the template 'total and deterministic' (their statements: YtmgnobeaacjdjacTotals.lean).
  GIVEN WITH THE SEED: the statements are not yours to turn. If you find one false, say at which input.
  Laid BY PROGRAM, IN A SANDBOX (cutbox-rows.mjs): the forced cells as the released guide's own fill.sh prints them over the translation ab04fcc1b02f064b… (all of the seat's roots in one cut). By AI agents, Wed Nov 11 2026. No macro, syntax, notation, axiom, sorry.
-/
import Derived.Test.YtmgnobeaacjdjacChecked
import GoSem.Claim
import GoSem.ClaimJoined
import GoSem.ClaimMapViews
import Derived.JoinedTies
import Derived.KernelRfl
namespace Go.Proofs.Ytmgnobeaacjdjac
/- THE CELL 'sum', in the pinned program and in every row, IS THE sha256 OF THE DUMP (.gsa) THAT YtmgnobeaacjdjacProg.lean LOADS. Nothing in Lean hashes anything: it is a label: what it is worth is what the hold of that sum in a sandbox is worth. -/
noncomputable def Try.pinned : Pinned := { name := "ytmgnobeaacjdjac", sum := "ab04fcc1b02f064bbaee0c60b2877d1b96e488bc7bc053073ede1faf7216a5ef", checked := Try.checked }
namespace Rows
def none {H : Type} : Left H := { results := [], args := [] }

/-- 'meridianlaw1.BitsSums': WHATEVER THE INPUT: true; the input reads as it did. -/
def bitsSumsSpec : ChangeSpec := { name := "bitsSums", fn := fun _ => fun
  | [d] => { results := [.lit (.bool true)], args := [d] }
  | _ => none }
def bitsSumsRow : OpenClaim := { program := "ytmgnobeaacjdjac", sum := "ab04fcc1b02f064bbaee0c60b2877d1b96e488bc7bc053073ede1faf7216a5ef", func := "meridian/meridianlaw1.BitsSums", spec := "bitsSums", inPlace := ["math.Float64bits", "math.Float64frombits", "math/bits.Add64", "math/bits.Sub64"], apart := false }
def BitsSumsSaid : Prop := bitsSumsRow.holds Try.pinned (OpenSpec.ofChange bitsSumsSpec)

/-- ITS FALSE NEIGHBOUR: 'it returns false'. Refute it at one input. -/
def bitsSumsWrong : ChangeSpec := { name := "bitsSums", fn := fun _ => fun
  | [d] => { results := [.lit (.bool false)], args := [d] }
  | _ => none }
def BitsSumsWrongFalsely : Prop := bitsSumsRow.holds Try.pinned (OpenSpec.ofChange bitsSumsWrong)

/-- 'meridianlaw1.BitsOrder': WHATEVER THE INPUT: true; the input reads as it did. -/
def bitsOrderSpec : ChangeSpec := { name := "bitsOrder", fn := fun _ => fun
  | [d1, d2, d3] => { results := [.lit (.bool true)], args := [d1, d2, d3] }
  | _ => none }
def bitsOrderRow : OpenClaim := { program := "ytmgnobeaacjdjac", sum := "ab04fcc1b02f064bbaee0c60b2877d1b96e488bc7bc053073ede1faf7216a5ef", func := "meridian/meridianlaw1.BitsOrder", spec := "bitsOrder", inPlace := ["math.Float64bits", "math.Float64frombits", "math/bits.Add64", "math/bits.Sub64"], apart := false }
def BitsOrderSaid : Prop := bitsOrderRow.holds Try.pinned (OpenSpec.ofChange bitsOrderSpec)

/-- ITS FALSE NEIGHBOUR: 'it returns false'. Refute it at one input. -/
def bitsOrderWrong : ChangeSpec := { name := "bitsOrder", fn := fun _ => fun
  | [d1, d2, d3] => { results := [.lit (.bool false)], args := [d1, d2, d3] }
  | _ => none }
def BitsOrderWrongFalsely : Prop := bitsOrderRow.holds Try.pinned (OpenSpec.ofChange bitsOrderWrong)

/-- 'meridianlaw1.BitsSines': WHATEVER THE INPUT: true; the input reads as it did. -/
def bitsSinesSpec : ChangeSpec := { name := "bitsSines", fn := fun _ => fun
  | [d] => { results := [.lit (.bool true)], args := [d] }
  | _ => none }
def bitsSinesRow : OpenClaim := { program := "ytmgnobeaacjdjac", sum := "ab04fcc1b02f064bbaee0c60b2877d1b96e488bc7bc053073ede1faf7216a5ef", func := "meridian/meridianlaw1.BitsSines", spec := "bitsSines", inPlace := ["math.Float64bits"], apart := false }
def BitsSinesSaid : Prop := bitsSinesRow.holds Try.pinned (OpenSpec.ofChange bitsSinesSpec)

/-- ITS FALSE NEIGHBOUR: 'it returns false'. Refute it at one input. -/
def bitsSinesWrong : ChangeSpec := { name := "bitsSines", fn := fun _ => fun
  | [d] => { results := [.lit (.bool false)], args := [d] }
  | _ => none }
def BitsSinesWrongFalsely : Prop := bitsSinesRow.holds Try.pinned (OpenSpec.ofChange bitsSinesWrong)

/-- 'meridianlaw1.BitsCircle': WHATEVER THE INPUT: true; the input reads as it did. -/
def bitsCircleSpec : ChangeSpec := { name := "bitsCircle", fn := fun _ => fun
  | [d] => { results := [.lit (.bool true)], args := [d] }
  | _ => none }
def bitsCircleRow : OpenClaim := { program := "ytmgnobeaacjdjac", sum := "ab04fcc1b02f064bbaee0c60b2877d1b96e488bc7bc053073ede1faf7216a5ef", func := "meridian/meridianlaw1.BitsCircle", spec := "bitsCircle", apart := false }
def BitsCircleSaid : Prop := bitsCircleRow.holds Try.pinned (OpenSpec.ofChange bitsCircleSpec)

/-- ITS FALSE NEIGHBOUR: 'it returns false'. Refute it at one input. -/
def bitsCircleWrong : ChangeSpec := { name := "bitsCircle", fn := fun _ => fun
  | [d] => { results := [.lit (.bool false)], args := [d] }
  | _ => none }
def BitsCircleWrongFalsely : Prop := bitsCircleRow.holds Try.pinned (OpenSpec.ofChange bitsCircleWrong)

/-- 'meridianlaw1.BitsRoots': WHATEVER THE INPUT: true; the input reads as it did. -/
def bitsRootsSpec : ChangeSpec := { name := "bitsRoots", fn := fun _ => fun
  | [d1, d2] => { results := [.lit (.bool true)], args := [d1, d2] }
  | _ => none }
def bitsRootsRow : OpenClaim := { program := "ytmgnobeaacjdjac", sum := "ab04fcc1b02f064bbaee0c60b2877d1b96e488bc7bc053073ede1faf7216a5ef", func := "meridian/meridianlaw1.BitsRoots", spec := "bitsRoots", inPlace := ["math.sqrt", "math.Float64bits"], apart := false }
def BitsRootsSaid : Prop := bitsRootsRow.holds Try.pinned (OpenSpec.ofChange bitsRootsSpec)

/-- ITS FALSE NEIGHBOUR: 'it returns false'. Refute it at one input. -/
def bitsRootsWrong : ChangeSpec := { name := "bitsRoots", fn := fun _ => fun
  | [d1, d2] => { results := [.lit (.bool false)], args := [d1, d2] }
  | _ => none }
def BitsRootsWrongFalsely : Prop := bitsRootsRow.holds Try.pinned (OpenSpec.ofChange bitsRootsWrong)

/- THE SECOND FORM. 'bulk': how many values and letters a reading holds, each counted each time it is reached (what is shared counts as often as it is met; a slice's spare places count too). A statement '..UptoSaid' is the law's where the arguments, and the package variables that the reading takes, are together of bulk at most 1048576: NARROWER than '..Said'. Prove '..Said' where nothing that the law and all that it calls make is longer than what came in: it says more and counts as full. Else prove '..UptoSaid'. A law counts once. -/
mutual
def uptoBulk {H : Type} : DataW H → Nat
  | .lit (.string bytes) => bytes.length + 1
  | .lit _ => 1
  | .nil => 1
  | .ptr d => uptoBulk d + 1
  | .slice elems spare => uptoBulkAll elems + uptoBulkAll spare + 1
  | .agg parts => uptoBulkAll parts + 1
  | .iface _ d => uptoBulk d + 1
  | .map entries => uptoBulkEntries entries + 1
  | .held _ => 1
def uptoBulkAll {H : Type} : List (DataW H) → Nat
  | [] => 0
  | d :: r => uptoBulk d + uptoBulkAll r
def uptoBulkEntries {H : Type} : List (Lit × DataW H) → Nat
  | [] => 0
  | x :: r => uptoBulkEntry x + uptoBulkEntries r
def uptoBulkEntry {H : Type} : Lit × DataW H → Nat
  | (.string bytes, d) => bytes.length + uptoBulk d + 1
  | (_, d) => uptoBulk d + 1
 end
def uptoSmall : (H : Type) → List (DataW H) → Bool := fun _ ds => decide (uptoBulkAll ds ≤ 1048576)
def OpenSpec.upto (s : _root_.Go.ChangeSpec) : _root_.Go.OpenSpec := { _root_.Go.OpenSpec.ofChange s with cond := some uptoSmall }

/-- 'meridianlaw1.BitsSums', WHERE WHAT IT READS IS OF BULK AT MOST 1048576: true; the input reads as it did. -/
def bitsSumsUptoRow : OpenClaim := { program := "ytmgnobeaacjdjac", sum := "ab04fcc1b02f064bbaee0c60b2877d1b96e488bc7bc053073ede1faf7216a5ef", func := "meridian/meridianlaw1.BitsSums", spec := "bitsSums", inPlace := ["math.Float64bits", "math.Float64frombits", "math/bits.Add64", "math/bits.Sub64"], apart := false, narrowed := true }
def BitsSumsUptoSaid : Prop := bitsSumsUptoRow.holds Try.pinned (OpenSpec.upto bitsSumsSpec)

/-- 'meridianlaw1.BitsOrder', WHERE WHAT IT READS IS OF BULK AT MOST 1048576: true; the input reads as it did. -/
def bitsOrderUptoRow : OpenClaim := { program := "ytmgnobeaacjdjac", sum := "ab04fcc1b02f064bbaee0c60b2877d1b96e488bc7bc053073ede1faf7216a5ef", func := "meridian/meridianlaw1.BitsOrder", spec := "bitsOrder", inPlace := ["math.Float64bits", "math.Float64frombits", "math/bits.Add64", "math/bits.Sub64"], apart := false, narrowed := true }
def BitsOrderUptoSaid : Prop := bitsOrderUptoRow.holds Try.pinned (OpenSpec.upto bitsOrderSpec)

/-- 'meridianlaw1.BitsSines', WHERE WHAT IT READS IS OF BULK AT MOST 1048576: true; the input reads as it did. -/
def bitsSinesUptoRow : OpenClaim := { program := "ytmgnobeaacjdjac", sum := "ab04fcc1b02f064bbaee0c60b2877d1b96e488bc7bc053073ede1faf7216a5ef", func := "meridian/meridianlaw1.BitsSines", spec := "bitsSines", inPlace := ["math.Float64bits"], apart := false, narrowed := true }
def BitsSinesUptoSaid : Prop := bitsSinesUptoRow.holds Try.pinned (OpenSpec.upto bitsSinesSpec)

/-- 'meridianlaw1.BitsCircle', WHERE WHAT IT READS IS OF BULK AT MOST 1048576: true; the input reads as it did. -/
def bitsCircleUptoRow : OpenClaim := { program := "ytmgnobeaacjdjac", sum := "ab04fcc1b02f064bbaee0c60b2877d1b96e488bc7bc053073ede1faf7216a5ef", func := "meridian/meridianlaw1.BitsCircle", spec := "bitsCircle", apart := false, narrowed := true }
def BitsCircleUptoSaid : Prop := bitsCircleUptoRow.holds Try.pinned (OpenSpec.upto bitsCircleSpec)

/-- 'meridianlaw1.BitsRoots', WHERE WHAT IT READS IS OF BULK AT MOST 1048576: true; the input reads as it did. -/
def bitsRootsUptoRow : OpenClaim := { program := "ytmgnobeaacjdjac", sum := "ab04fcc1b02f064bbaee0c60b2877d1b96e488bc7bc053073ede1faf7216a5ef", func := "meridian/meridianlaw1.BitsRoots", spec := "bitsRoots", inPlace := ["math.sqrt", "math.Float64bits"], apart := false, narrowed := true }
def BitsRootsUptoSaid : Prop := bitsRootsUptoRow.holds Try.pinned (OpenSpec.upto bitsRootsSpec)

end Rows
end Go.Proofs.Ytmgnobeaacjdjac
