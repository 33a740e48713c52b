/-
  DERIVED. GIVEN WITH THE SEED: THE CARDS: each row of YtfifbcoedfdnjabDoorRows.lean that lists a variable, with what it lists TIED to the program's text (the seventh form; the later family's looks); each row that meets fmt, with fmt's text TOLD by the authors' own Lean function (tested against real Go, not proved from fmt's source: count such statements apart). THE CARD IS WHAT COUNTS. Prove the row's statement (the work); the ties are given (YtfifbcoedfdnjabDoorTie.lean); close each card by the builder's one call (the guide's Derived/Test/ToyasCard.lean, 'card_holds'). Laid BY PROGRAM, IN A SANDBOX (cutbox-door.mjs). By AI agents, Wed Nov 11 2026. No macro, syntax, notation, axiom, sorry.
-/
import Derived.Test.YtfifbcoedfdnjabDoorRows
import GoSem.ClaimSeven
namespace Go.Proofs.YtfifbcoedfdnjabDoor
namespace Rows

/-- THE TIED CARD OF 'meridianlaw1.TickJulian'. -/
def tickJulianCard : Claim7 := { stood := { row := tickJulianRow, standIns := [], harness := (true, "cc2d9ee0578d1619fc82b616e6f9624d61d8f0424bae2fadf31a5e320e057e02"), looks := true }, kinds := [], alts := [], laidByText := true, laidKinds := [.handle, .sentinel, .sentinel, .sentinel, .sentinel, .sentinel, .sentinel, .sentinel, .sentinel, .sentinel, .sentinel], laidTests := true, laidLooks := .later }
def TickJulianCardSaid : Prop := Claim7.holds Tryd.pinned (.plain (OpenSpec.ofChange tickJulianSpec)) tickJulianCard

/-- THE TIED CARD OF 'meridianlaw1.ArcTexts'. -/
def arcTextsCard : Claim7 := { stood := { row := arcTextsRow, standIns := [], harness := (true, "cc2d9ee0578d1619fc82b616e6f9624d61d8f0424bae2fadf31a5e320e057e02"), looks := true }, kinds := [], alts := [], laidByText := true, laidKinds := [.data, .data, .data], laidTests := true, laidLooks := .later }
def ArcTextsCardSaid : Prop := Claim7.holds Tryd.pinned (.plain (OpenSpec.ofChange arcTextsSpec)) arcTextsCard

/-- THE TIED CARD OF 'meridianlaw1.ArcReads'. -/
def arcReadsCard : Claim7 := { stood := { row := arcReadsRow, standIns := [], harness := (true, "cc2d9ee0578d1619fc82b616e6f9624d61d8f0424bae2fadf31a5e320e057e02"), looks := true }, kinds := [], alts := [], laidByText := true, laidKinds := [.data, .handle, .sentinel, .sentinel, .sentinel, .sentinel, .sentinel, .sentinel, .sentinel, .sentinel, .sentinel, .sentinel, .pinned], laidTests := true, laidLooks := .later }
def ArcReadsCardSaid : Prop := Claim7.holds Tryd.pinned (.plain (OpenSpec.ofChange arcReadsSpec)) arcReadsCard

/-- THE TIED CARD OF 'meridianlaw1.ArcBack'. -/
def arcBackCard : Claim7 := { stood := { row := arcBackRow, standIns := [], harness := (true, "cc2d9ee0578d1619fc82b616e6f9624d61d8f0424bae2fadf31a5e320e057e02"), looks := true }, kinds := [], alts := [], laidByText := true, laidKinds := [.data, .data, .data, .data, .sentinel, .pinned], laidTests := true, laidLooks := .later }
def ArcBackCardSaid : Prop := Claim7.holds Tryd.pinned (.plain (OpenSpec.ofChange arcBackSpec)) arcBackCard

/-- THE SECOND FORM's CARD OF 'meridianlaw1.TickJulian'. -/
def tickJulianUptoCard : Claim7 := { stood := { row := tickJulianUptoRow, standIns := [], harness := (true, "cc2d9ee0578d1619fc82b616e6f9624d61d8f0424bae2fadf31a5e320e057e02"), looks := true }, kinds := [], alts := [], laidByText := true, laidKinds := [.handle, .sentinel, .sentinel, .sentinel, .sentinel, .sentinel, .sentinel, .sentinel, .sentinel, .sentinel, .sentinel], laidTests := true, laidLooks := .later }
def TickJulianUptoCardSaid : Prop := Claim7.holds Tryd.pinned (.plain (OpenSpec.upto tickJulianSpec)) tickJulianUptoCard

/-- THE SECOND FORM's CARD OF 'meridianlaw1.ArcTexts'. -/
def arcTextsUptoCard : Claim7 := { stood := { row := arcTextsUptoRow, standIns := [], harness := (true, "cc2d9ee0578d1619fc82b616e6f9624d61d8f0424bae2fadf31a5e320e057e02"), looks := true }, kinds := [], alts := [], laidByText := true, laidKinds := [.data, .data, .data], laidTests := true, laidLooks := .later }
def ArcTextsUptoCardSaid : Prop := Claim7.holds Tryd.pinned (.plain (OpenSpec.upto arcTextsSpec)) arcTextsUptoCard

/-- THE SECOND FORM's CARD OF 'meridianlaw1.ArcReads'. -/
def arcReadsUptoCard : Claim7 := { stood := { row := arcReadsUptoRow, standIns := [], harness := (true, "cc2d9ee0578d1619fc82b616e6f9624d61d8f0424bae2fadf31a5e320e057e02"), looks := true }, kinds := [], alts := [], laidByText := true, laidKinds := [.data, .handle, .sentinel, .sentinel, .sentinel, .sentinel, .sentinel, .sentinel, .sentinel, .sentinel, .sentinel, .sentinel, .pinned], laidTests := true, laidLooks := .later }
def ArcReadsUptoCardSaid : Prop := Claim7.holds Tryd.pinned (.plain (OpenSpec.upto arcReadsSpec)) arcReadsUptoCard

/-- THE SECOND FORM's CARD OF 'meridianlaw1.ArcBack'. -/
def arcBackUptoCard : Claim7 := { stood := { row := arcBackUptoRow, standIns := [], harness := (true, "cc2d9ee0578d1619fc82b616e6f9624d61d8f0424bae2fadf31a5e320e057e02"), looks := true }, kinds := [], alts := [], laidByText := true, laidKinds := [.data, .data, .data, .data, .sentinel, .pinned], laidTests := true, laidLooks := .later }
def ArcBackUptoCardSaid : Prop := Claim7.holds Tryd.pinned (.plain (OpenSpec.upto arcBackSpec)) arcBackUptoCard
end Rows
end Go.Proofs.YtfifbcoedfdnjabDoor
