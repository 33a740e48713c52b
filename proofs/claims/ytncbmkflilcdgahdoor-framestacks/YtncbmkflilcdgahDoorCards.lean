/-
  DERIVED. GIVEN WITH THE SEED: THE CARDS: each row of YtncbmkflilcdgahDoorRows.lean that lists a variable, with what it lists TIED to the program's text (the seventh form; the later family's looks); each row that meets fmt, with fmt's text TOLD by the authors' own Lean function (tested against real Go, not proved from fmt's source: count such statements apart). THE CARD IS WHAT COUNTS. Prove the row's statement (the work); the ties are given (YtncbmkflilcdgahDoorTie.lean); close each card by the builder's one call (the guide's Derived/Test/ToyasCard.lean, 'card_holds'). Laid BY PROGRAM, IN A SANDBOX (cutbox-door.mjs). By AI agents, Wed Nov 11 2026. No macro, syntax, notation, axiom, sorry.
-/
import Derived.Test.YtncbmkflilcdgahDoorRows
import GoSem.ClaimSeven
namespace Go.Proofs.YtncbmkflilcdgahDoor
namespace Rows

/-- THE TIED CARD OF 'meridianlaw3.EventWindows'. -/
def eventWindowsCard : Claim7 := { stood := { row := eventWindowsRow, standIns := [], harness := (true, "62041738548778843d5f1b1f4ed3bd2af2a4892314b13de4650fb185521fa802"), looks := true }, kinds := [], alts := [], laidByText := true, laidKinds := [.handle, .sentinel, .sentinel, .sentinel, .sentinel, .sentinel, .sentinel, .sentinel, .sentinel, .sentinel, .sentinel], laidTests := true, laidLooks := .later }
def EventWindowsCardSaid : Prop := Claim7.holds Tryd.pinned (.plain (OpenSpec.ofChange eventWindowsSpec)) eventWindowsCard

/-- THE TIED CARD OF 'meridianlaw3.EventSpans'. -/
def eventSpansCard : Claim7 := { stood := { row := eventSpansRow, standIns := [], harness := (true, "62041738548778843d5f1b1f4ed3bd2af2a4892314b13de4650fb185521fa802"), looks := true }, kinds := [], alts := [], laidByText := true, laidKinds := [.handle, .sentinel, .sentinel, .sentinel, .sentinel, .sentinel, .sentinel, .sentinel, .sentinel, .sentinel, .sentinel], laidTests := true, laidLooks := .later }
def EventSpansCardSaid : Prop := Claim7.holds Tryd.pinned (.plain (OpenSpec.ofChange eventSpansSpec)) eventSpansCard

/-- THE TIED CARD OF 'meridianlaw3.MountTakes'. -/
def mountTakesCard : Claim7 := { stood := { row := mountTakesRow, standIns := [], harness := (true, "62041738548778843d5f1b1f4ed3bd2af2a4892314b13de4650fb185521fa802"), looks := true }, kinds := [], alts := [], laidByText := true, laidKinds := [.handle, .sentinel, .sentinel, .sentinel, .sentinel, .sentinel, .sentinel, .sentinel, .sentinel, .sentinel, .sentinel], laidTests := true, laidLooks := .later }
def MountTakesCardSaid : Prop := Claim7.holds Tryd.pinned (.plain (OpenSpec.ofChange mountTakesSpec)) mountTakesCard

/-- THE TIED CARD OF 'meridianlaw3.MountSafe'. -/
def mountSafeCard : Claim7 := { stood := { row := mountSafeRow, standIns := [], harness := (true, "62041738548778843d5f1b1f4ed3bd2af2a4892314b13de4650fb185521fa802"), looks := true }, kinds := [], alts := [], laidByText := true, laidKinds := [.sentinel, .sentinel, .sentinel, .sentinel, .sentinel], laidTests := true, laidLooks := .later }
def MountSafeCardSaid : Prop := Claim7.holds Tryd.pinned (.plain (OpenSpec.ofChange mountSafeSpec)) mountSafeCard

/-- THE TIED CARD OF 'meridianlaw3.MountHears'. -/
def mountHearsCard : Claim7 := { stood := { row := mountHearsRow, standIns := [], harness := (true, "62041738548778843d5f1b1f4ed3bd2af2a4892314b13de4650fb185521fa802"), looks := true }, kinds := [], alts := [], laidByText := true, laidKinds := [.handle, .sentinel, .sentinel, .sentinel, .sentinel, .sentinel, .sentinel, .sentinel, .sentinel, .sentinel, .sentinel], laidTests := true, laidLooks := .later }
def MountHearsCardSaid : Prop := Claim7.holds Tryd.pinned (.plain (OpenSpec.ofChange mountHearsSpec)) mountHearsCard

/-- THE TIED CARD OF 'meridianlaw4.FrameStacks'. -/
def frameStacksCard : Claim7 := { stood := { row := frameStacksRow, standIns := [], harness := (true, "62041738548778843d5f1b1f4ed3bd2af2a4892314b13de4650fb185521fa802"), looks := true }, kinds := [], alts := [], laidByText := true, laidKinds := [.handle, .sentinel, .sentinel, .sentinel, .sentinel, .sentinel, .sentinel, .sentinel, .sentinel, .sentinel, .sentinel], laidTests := true, laidLooks := .later }
def FrameStacksCardSaid : Prop := Claim7.holds Tryd.pinned (.plain (OpenSpec.ofChange frameStacksSpec)) frameStacksCard

/-- THE SECOND FORM's CARD OF 'meridianlaw3.EventWindows'. -/
def eventWindowsUptoCard : Claim7 := { stood := { row := eventWindowsUptoRow, standIns := [], harness := (true, "62041738548778843d5f1b1f4ed3bd2af2a4892314b13de4650fb185521fa802"), looks := true }, kinds := [], alts := [], laidByText := true, laidKinds := [.handle, .sentinel, .sentinel, .sentinel, .sentinel, .sentinel, .sentinel, .sentinel, .sentinel, .sentinel, .sentinel], laidTests := true, laidLooks := .later }
def EventWindowsUptoCardSaid : Prop := Claim7.holds Tryd.pinned (.plain (OpenSpec.upto eventWindowsSpec)) eventWindowsUptoCard

/-- THE SECOND FORM's CARD OF 'meridianlaw3.EventSpans'. -/
def eventSpansUptoCard : Claim7 := { stood := { row := eventSpansUptoRow, standIns := [], harness := (true, "62041738548778843d5f1b1f4ed3bd2af2a4892314b13de4650fb185521fa802"), looks := true }, kinds := [], alts := [], laidByText := true, laidKinds := [.handle, .sentinel, .sentinel, .sentinel, .sentinel, .sentinel, .sentinel, .sentinel, .sentinel, .sentinel, .sentinel], laidTests := true, laidLooks := .later }
def EventSpansUptoCardSaid : Prop := Claim7.holds Tryd.pinned (.plain (OpenSpec.upto eventSpansSpec)) eventSpansUptoCard

/-- THE SECOND FORM's CARD OF 'meridianlaw3.MountTakes'. -/
def mountTakesUptoCard : Claim7 := { stood := { row := mountTakesUptoRow, standIns := [], harness := (true, "62041738548778843d5f1b1f4ed3bd2af2a4892314b13de4650fb185521fa802"), looks := true }, kinds := [], alts := [], laidByText := true, laidKinds := [.handle, .sentinel, .sentinel, .sentinel, .sentinel, .sentinel, .sentinel, .sentinel, .sentinel, .sentinel, .sentinel], laidTests := true, laidLooks := .later }
def MountTakesUptoCardSaid : Prop := Claim7.holds Tryd.pinned (.plain (OpenSpec.upto mountTakesSpec)) mountTakesUptoCard

/-- THE SECOND FORM's CARD OF 'meridianlaw3.MountSafe'. -/
def mountSafeUptoCard : Claim7 := { stood := { row := mountSafeUptoRow, standIns := [], harness := (true, "62041738548778843d5f1b1f4ed3bd2af2a4892314b13de4650fb185521fa802"), looks := true }, kinds := [], alts := [], laidByText := true, laidKinds := [.sentinel, .sentinel, .sentinel, .sentinel, .sentinel], laidTests := true, laidLooks := .later }
def MountSafeUptoCardSaid : Prop := Claim7.holds Tryd.pinned (.plain (OpenSpec.upto mountSafeSpec)) mountSafeUptoCard

/-- THE SECOND FORM's CARD OF 'meridianlaw3.MountHears'. -/
def mountHearsUptoCard : Claim7 := { stood := { row := mountHearsUptoRow, standIns := [], harness := (true, "62041738548778843d5f1b1f4ed3bd2af2a4892314b13de4650fb185521fa802"), looks := true }, kinds := [], alts := [], laidByText := true, laidKinds := [.handle, .sentinel, .sentinel, .sentinel, .sentinel, .sentinel, .sentinel, .sentinel, .sentinel, .sentinel, .sentinel], laidTests := true, laidLooks := .later }
def MountHearsUptoCardSaid : Prop := Claim7.holds Tryd.pinned (.plain (OpenSpec.upto mountHearsSpec)) mountHearsUptoCard

/-- THE SECOND FORM's CARD OF 'meridianlaw4.FrameStacks'. -/
def frameStacksUptoCard : Claim7 := { stood := { row := frameStacksUptoRow, standIns := [], harness := (true, "62041738548778843d5f1b1f4ed3bd2af2a4892314b13de4650fb185521fa802"), looks := true }, kinds := [], alts := [], laidByText := true, laidKinds := [.handle, .sentinel, .sentinel, .sentinel, .sentinel, .sentinel, .sentinel, .sentinel, .sentinel, .sentinel, .sentinel], laidTests := true, laidLooks := .later }
def FrameStacksUptoCardSaid : Prop := Claim7.holds Tryd.pinned (.plain (OpenSpec.upto frameStacksSpec)) frameStacksUptoCard
end Rows
end Go.Proofs.YtncbmkflilcdgahDoor
