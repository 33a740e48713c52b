/-
  DERIVED. GIVEN WITH THE SEED: THE CARDS: each row of YtoacdaemhcbbhaaDoorRows.lean that lists a variable, with what it lists TIED to the program's text (the seventh form; the later family's looks); each row that meets fmt, with fmt's text TOLD by the authors' own Lean function (tested against real Go, not proved from fmt's source: count such statements apart). THE CARD IS WHAT COUNTS. Prove the row's statement (the work); the ties are given (YtoacdaemhcbbhaaDoorTie.lean); close each card by the builder's one call (the guide's Derived/Test/ToyasCard.lean, 'card_holds'). Laid BY PROGRAM, IN A SANDBOX (cutbox-door.mjs). By AI agents, Wed Nov 11 2026. No macro, syntax, notation, axiom, sorry.
-/
import Derived.Test.YtoacdaemhcbbhaaDoorRows
import GoSem.ClaimSeven
namespace Go.Proofs.YtoacdaemhcbbhaaDoor
namespace Rows

/-- THE TIED CARD OF 'meridianlaw5.NightBest'. -/
def nightBestCard : Claim7 := { stood := { row := nightBestRow, standIns := [], harness := (true, "64ccdf41370bf93f28b85a8bcf36e07113276bd8475372e839ab7155a17e6fa0"), looks := true }, kinds := [], alts := [], laidByText := true, laidKinds := [.handle, .sentinel, .sentinel, .sentinel, .sentinel, .sentinel, .sentinel, .sentinel, .sentinel, .sentinel, .sentinel], laidTests := true, laidLooks := .later }
def NightBestCardSaid : Prop := Claim7.holds Tryd.pinned (.plain (OpenSpec.ofChange nightBestSpec)) nightBestCard

/-- THE TIED CARD OF 'meridianlaw5.NightChecks'. -/
def nightChecksCard : Claim7 := { stood := { row := nightChecksRow, standIns := [], harness := (true, "64ccdf41370bf93f28b85a8bcf36e07113276bd8475372e839ab7155a17e6fa0"), looks := true }, kinds := [], alts := [], laidByText := true, laidKinds := [.handle, .sentinel, .sentinel, .sentinel, .sentinel, .sentinel, .sentinel, .sentinel, .sentinel, .sentinel, .sentinel], laidTests := true, laidLooks := .later }
def NightChecksCardSaid : Prop := Claim7.holds Tryd.pinned (.plain (OpenSpec.ofChange nightChecksSpec)) nightChecksCard

/-- THE TIED CARD OF 'meridianlaw5.NightShoots'. -/
def nightShootsCard : Claim7 := { stood := { row := nightShootsRow, standIns := [], harness := (true, "64ccdf41370bf93f28b85a8bcf36e07113276bd8475372e839ab7155a17e6fa0"), looks := true }, kinds := [], alts := [], laidByText := true, laidKinds := [.handle, .sentinel, .sentinel, .sentinel, .sentinel, .sentinel, .sentinel, .sentinel, .sentinel, .sentinel, .sentinel], laidTests := true, laidLooks := .later }
def NightShootsCardSaid : Prop := Claim7.holds Tryd.pinned (.plain (OpenSpec.ofChange nightShootsSpec)) nightShootsCard

/-- THE SECOND FORM's CARD OF 'meridianlaw5.NightBest'. -/
def nightBestUptoCard : Claim7 := { stood := { row := nightBestUptoRow, standIns := [], harness := (true, "64ccdf41370bf93f28b85a8bcf36e07113276bd8475372e839ab7155a17e6fa0"), looks := true }, kinds := [], alts := [], laidByText := true, laidKinds := [.handle, .sentinel, .sentinel, .sentinel, .sentinel, .sentinel, .sentinel, .sentinel, .sentinel, .sentinel, .sentinel], laidTests := true, laidLooks := .later }
def NightBestUptoCardSaid : Prop := Claim7.holds Tryd.pinned (.plain (OpenSpec.upto nightBestSpec)) nightBestUptoCard

/-- THE SECOND FORM's CARD OF 'meridianlaw5.NightChecks'. -/
def nightChecksUptoCard : Claim7 := { stood := { row := nightChecksUptoRow, standIns := [], harness := (true, "64ccdf41370bf93f28b85a8bcf36e07113276bd8475372e839ab7155a17e6fa0"), looks := true }, kinds := [], alts := [], laidByText := true, laidKinds := [.handle, .sentinel, .sentinel, .sentinel, .sentinel, .sentinel, .sentinel, .sentinel, .sentinel, .sentinel, .sentinel], laidTests := true, laidLooks := .later }
def NightChecksUptoCardSaid : Prop := Claim7.holds Tryd.pinned (.plain (OpenSpec.upto nightChecksSpec)) nightChecksUptoCard

/-- THE SECOND FORM's CARD OF 'meridianlaw5.NightShoots'. -/
def nightShootsUptoCard : Claim7 := { stood := { row := nightShootsUptoRow, standIns := [], harness := (true, "64ccdf41370bf93f28b85a8bcf36e07113276bd8475372e839ab7155a17e6fa0"), looks := true }, kinds := [], alts := [], laidByText := true, laidKinds := [.handle, .sentinel, .sentinel, .sentinel, .sentinel, .sentinel, .sentinel, .sentinel, .sentinel, .sentinel, .sentinel], laidTests := true, laidLooks := .later }
def NightShootsUptoCardSaid : Prop := Claim7.holds Tryd.pinned (.plain (OpenSpec.upto nightShootsSpec)) nightShootsUptoCard
end Rows
end Go.Proofs.YtoacdaemhcbbhaaDoor
