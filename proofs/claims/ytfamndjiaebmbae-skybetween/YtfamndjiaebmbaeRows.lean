/-
  No cell of these rows narrows 'for every input' (looked for: loops, veiled, ifaces, maps, wideKeys, modest, calm, conditions, laid).
  DERIVED. THE GIVEN ROWS OF THIS SEAT. 4 by the template 'for every input the law returns true; each argument reads behind the call as it read before'; 0 by the template 'total and deterministic' (their statements: YtfamndjiaebmbaeTotals.lean).
  GIVEN WITH THE SEED: the statements are not yours to turn. If you find one false, say at which input.
  Laid BY PROGRAM, IN A SANDBOX (cutbox-rows.mjs): the forced cells as the released guide's own fill.sh prints them over the translation 5d7421117daa565e… (all of the seat's roots in one cut). By AI agents, Wed Nov 11 2026. No macro, syntax, notation, axiom, sorry.
-/
import Derived.Test.YtfamndjiaebmbaeChecked
import GoSem.Claim
import GoSem.ClaimJoined
import GoSem.ClaimMapViews
import Derived.JoinedTies
import Derived.KernelRfl
namespace Go.Proofs.Ytfamndjiaebmbae
/- THE CELL 'sum', in the pinned program and in every row, IS THE sha256 OF THE DUMP (.gsa) THAT YtfamndjiaebmbaeProg.lean LOADS. Nothing in Lean hashes anything: it is a label: what it is worth is what the hold of that sum in a sandbox is worth. -/
noncomputable def Try.pinned : Pinned := { name := "ytfamndjiaebmbae", sum := "5d7421117daa565ee342cb3df873a14d3cd7118efd9dad32135b9eb92ccf3f8f", checked := Try.checked }
namespace Rows
def none {H : Type} : Left H := { results := [], args := [] }

/-- 'meridianlaw2.SkyPlaces': WHATEVER THE INPUT: true; the input reads as it did. -/
def skyPlacesSpec : ChangeSpec := { name := "skyPlaces", fn := fun _ => fun
  | [d1, d2] => { results := [.lit (.bool true)], args := [d1, d2] }
  | _ => none }
def skyPlacesRow : OpenClaim := { program := "ytfamndjiaebmbae", sum := "5d7421117daa565ee342cb3df873a14d3cd7118efd9dad32135b9eb92ccf3f8f", func := "meridian/meridianlaw2.SkyPlaces", spec := "skyPlaces", inPlace := ["math.Float64bits", "math.sqrt", "math.Float64frombits"], apart := false }
def SkyPlacesSaid : Prop := skyPlacesRow.holds Try.pinned (OpenSpec.ofChange skyPlacesSpec)

/-- ITS FALSE NEIGHBOUR: 'it returns false'. Refute it at one input. -/
def skyPlacesWrong : ChangeSpec := { name := "skyPlaces", fn := fun _ => fun
  | [d1, d2] => { results := [.lit (.bool false)], args := [d1, d2] }
  | _ => none }
def SkyPlacesWrongFalsely : Prop := skyPlacesRow.holds Try.pinned (OpenSpec.ofChange skyPlacesWrong)

/-- 'meridianlaw2.SkyBack': WHATEVER THE INPUT: true; the input reads as it did. -/
def skyBackSpec : ChangeSpec := { name := "skyBack", fn := fun _ => fun
  | [d] => { results := [.lit (.bool true)], args := [d] }
  | _ => none }
def skyBackRow : OpenClaim := { program := "ytfamndjiaebmbae", sum := "5d7421117daa565ee342cb3df873a14d3cd7118efd9dad32135b9eb92ccf3f8f", func := "meridian/meridianlaw2.SkyBack", spec := "skyBack", inPlace := ["math.sqrt", "math.Float64bits", "math.Float64frombits"], apart := false }
def SkyBackSaid : Prop := skyBackRow.holds Try.pinned (OpenSpec.ofChange skyBackSpec)

/-- ITS FALSE NEIGHBOUR: 'it returns false'. Refute it at one input. -/
def skyBackWrong : ChangeSpec := { name := "skyBack", fn := fun _ => fun
  | [d] => { results := [.lit (.bool false)], args := [d] }
  | _ => none }
def SkyBackWrongFalsely : Prop := skyBackRow.holds Try.pinned (OpenSpec.ofChange skyBackWrong)

/-- 'meridianlaw2.SkyHorizon': WHATEVER THE INPUT: true; the input reads as it did. -/
def skyHorizonSpec : ChangeSpec := { name := "skyHorizon", fn := fun _ => fun
  | [d1, d2, d3] => { results := [.lit (.bool true)], args := [d1, d2, d3] }
  | _ => none }
def skyHorizonRow : OpenClaim := { program := "ytfamndjiaebmbae", sum := "5d7421117daa565ee342cb3df873a14d3cd7118efd9dad32135b9eb92ccf3f8f", func := "meridian/meridianlaw2.SkyHorizon", spec := "skyHorizon", inPlace := ["math.sqrt", "math.Float64bits", "math.Float64frombits"], apart := false }
def SkyHorizonSaid : Prop := skyHorizonRow.holds Try.pinned (OpenSpec.ofChange skyHorizonSpec)

/-- ITS FALSE NEIGHBOUR: 'it returns false'. Refute it at one input. -/
def skyHorizonWrong : ChangeSpec := { name := "skyHorizon", fn := fun _ => fun
  | [d1, d2, d3] => { results := [.lit (.bool false)], args := [d1, d2, d3] }
  | _ => none }
def SkyHorizonWrongFalsely : Prop := skyHorizonRow.holds Try.pinned (OpenSpec.ofChange skyHorizonWrong)

/-- 'meridianlaw2.SkyBetween': WHATEVER THE INPUT: true; the input reads as it did. -/
def skyBetweenSpec : ChangeSpec := { name := "skyBetween", fn := fun _ => fun
  | [d1, d2] => { results := [.lit (.bool true)], args := [d1, d2] }
  | _ => none }
def skyBetweenRow : OpenClaim := { program := "ytfamndjiaebmbae", sum := "5d7421117daa565ee342cb3df873a14d3cd7118efd9dad32135b9eb92ccf3f8f", func := "meridian/meridianlaw2.SkyBetween", spec := "skyBetween", inPlace := ["math.sqrt", "math.Float64bits", "math.Float64frombits"], apart := false }
def SkyBetweenSaid : Prop := skyBetweenRow.holds Try.pinned (OpenSpec.ofChange skyBetweenSpec)

/-- ITS FALSE NEIGHBOUR: 'it returns false'. Refute it at one input. -/
def skyBetweenWrong : ChangeSpec := { name := "skyBetween", fn := fun _ => fun
  | [d1, d2] => { results := [.lit (.bool false)], args := [d1, d2] }
  | _ => none }
def SkyBetweenWrongFalsely : Prop := skyBetweenRow.holds Try.pinned (OpenSpec.ofChange skyBetweenWrong)

/- THE SECOND FORM. 'bulk': how many values and letters a reading holds, each counted each time it is reached (what is shared counts as often as it is met; a slice's spare places count too). A statement '..UptoSaid' is the law's where the arguments, and the package variables that the reading takes, are together of bulk at most 1048576: NARROWER than '..Said'. Prove '..Said' where nothing that the law and all that it calls make is longer than what came in: it says more and counts as full. Else prove '..UptoSaid'. A law counts once. -/
mutual
def uptoBulk {H : Type} : DataW H → Nat
  | .lit (.string bytes) => bytes.length + 1
  | .lit _ => 1
  | .nil => 1
  | .ptr d => uptoBulk d + 1
  | .slice elems spare => uptoBulkAll elems + uptoBulkAll spare + 1
  | .agg parts => uptoBulkAll parts + 1
  | .iface _ d => uptoBulk d + 1
  | .map entries => uptoBulkEntries entries + 1
  | .held _ => 1
def uptoBulkAll {H : Type} : List (DataW H) → Nat
  | [] => 0
  | d :: r => uptoBulk d + uptoBulkAll r
def uptoBulkEntries {H : Type} : List (Lit × DataW H) → Nat
  | [] => 0
  | x :: r => uptoBulkEntry x + uptoBulkEntries r
def uptoBulkEntry {H : Type} : Lit × DataW H → Nat
  | (.string bytes, d) => bytes.length + uptoBulk d + 1
  | (_, d) => uptoBulk d + 1
 end
def uptoSmall : (H : Type) → List (DataW H) → Bool := fun _ ds => decide (uptoBulkAll ds ≤ 1048576)
def OpenSpec.upto (s : _root_.Go.ChangeSpec) : _root_.Go.OpenSpec := { _root_.Go.OpenSpec.ofChange s with cond := some uptoSmall }

/-- 'meridianlaw2.SkyPlaces', WHERE WHAT IT READS IS OF BULK AT MOST 1048576: true; the input reads as it did. -/
def skyPlacesUptoRow : OpenClaim := { program := "ytfamndjiaebmbae", sum := "5d7421117daa565ee342cb3df873a14d3cd7118efd9dad32135b9eb92ccf3f8f", func := "meridian/meridianlaw2.SkyPlaces", spec := "skyPlaces", inPlace := ["math.Float64bits", "math.sqrt", "math.Float64frombits"], apart := false, narrowed := true }
def SkyPlacesUptoSaid : Prop := skyPlacesUptoRow.holds Try.pinned (OpenSpec.upto skyPlacesSpec)

/-- 'meridianlaw2.SkyBack', WHERE WHAT IT READS IS OF BULK AT MOST 1048576: true; the input reads as it did. -/
def skyBackUptoRow : OpenClaim := { program := "ytfamndjiaebmbae", sum := "5d7421117daa565ee342cb3df873a14d3cd7118efd9dad32135b9eb92ccf3f8f", func := "meridian/meridianlaw2.SkyBack", spec := "skyBack", inPlace := ["math.sqrt", "math.Float64bits", "math.Float64frombits"], apart := false, narrowed := true }
def SkyBackUptoSaid : Prop := skyBackUptoRow.holds Try.pinned (OpenSpec.upto skyBackSpec)

/-- 'meridianlaw2.SkyHorizon', WHERE WHAT IT READS IS OF BULK AT MOST 1048576: true; the input reads as it did. -/
def skyHorizonUptoRow : OpenClaim := { program := "ytfamndjiaebmbae", sum := "5d7421117daa565ee342cb3df873a14d3cd7118efd9dad32135b9eb92ccf3f8f", func := "meridian/meridianlaw2.SkyHorizon", spec := "skyHorizon", inPlace := ["math.sqrt", "math.Float64bits", "math.Float64frombits"], apart := false, narrowed := true }
def SkyHorizonUptoSaid : Prop := skyHorizonUptoRow.holds Try.pinned (OpenSpec.upto skyHorizonSpec)

/-- 'meridianlaw2.SkyBetween', WHERE WHAT IT READS IS OF BULK AT MOST 1048576: true; the input reads as it did. -/
def skyBetweenUptoRow : OpenClaim := { program := "ytfamndjiaebmbae", sum := "5d7421117daa565ee342cb3df873a14d3cd7118efd9dad32135b9eb92ccf3f8f", func := "meridian/meridianlaw2.SkyBetween", spec := "skyBetween", inPlace := ["math.sqrt", "math.Float64bits", "math.Float64frombits"], apart := false, narrowed := true }
def SkyBetweenUptoSaid : Prop := skyBetweenUptoRow.holds Try.pinned (OpenSpec.upto skyBetweenSpec)

end Rows
end Go.Proofs.Ytfamndjiaebmbae
