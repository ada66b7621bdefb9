/-
  DERIVED. GIVEN WITH THE SEED: THE CARDS: each row of YtonkcnaijcpfdaaGreatDoorRows.lean that lists a variable, with what it lists TIED to the program's text (the seventh form; the later family's looks); each row that meets fmt, with fmt's text TOLD by the authors' own Lean function (tested against real Go, not proved from fmt's source: count such statements apart). THE CARD IS WHAT COUNTS. Prove the row's statement (the work); the ties are given (YtonkcnaijcpfdaaGreatDoorTie.lean); close each card by the builder's one call (the guide's Derived/Test/ToyasCard.lean, 'card_holds'). Laid BY PROGRAM, IN A SANDBOX (cutbox-door.mjs). By AI agents, Wed Nov 11 2026. No macro, syntax, notation, axiom, sorry.
-/
import Derived.Test.YtonkcnaijcpfdaaGreatDoorRows
import GoSem.ClaimSeven
namespace Go.Proofs.YtonkcnaijcpfdaaGreatDoor
namespace Rows

/-- THE TIED CARD OF 'scarablaw04.CodeEncodes'. -/
def codeEncodesCard : Claim7 := { stood := { row := codeEncodesRow, standIns := [], harness := (true, "02b8bb89a7ff9c5472122e1ac132320a55f0abd3ff24dd32b0d9257e3c55778e"), looks := false }, kinds := [], alts := [], laidByText := true, laidKinds := [.data], laidTests := true, laidLooks := .later }
def CodeEncodesCardSaid : Prop := Claim7.holds Tryz.pinned (.plain (OpenSpec.ofChange codeEncodesSpec)) codeEncodesCard

/-- THE TIED CARD OF 'scarablaw04.CodeSpots'. -/
def codeSpotsCard : Claim7 := { stood := { row := codeSpotsRow, standIns := [], harness := (true, "02b8bb89a7ff9c5472122e1ac132320a55f0abd3ff24dd32b0d9257e3c55778e"), looks := false }, kinds := [], alts := [], laidByText := true, laidKinds := [.data], laidTests := true, laidLooks := .later }
def CodeSpotsCardSaid : Prop := Claim7.holds Tryz.pinned (.plain (OpenSpec.ofChange codeSpotsSpec)) codeSpotsCard

/-- THE SECOND FORM's CARD OF 'scarablaw04.CodeEncodes'. -/
def codeEncodesUptoCard : Claim7 := { stood := { row := codeEncodesUptoRow, standIns := [], harness := (true, "02b8bb89a7ff9c5472122e1ac132320a55f0abd3ff24dd32b0d9257e3c55778e"), looks := false }, kinds := [], alts := [], laidByText := true, laidKinds := [.data], laidTests := true, laidLooks := .later }
def CodeEncodesUptoCardSaid : Prop := Claim7.holds Tryz.pinned (.plain (OpenSpec.upto codeEncodesSpec)) codeEncodesUptoCard

/-- THE SECOND FORM's CARD OF 'scarablaw04.CodeSpots'. -/
def codeSpotsUptoCard : Claim7 := { stood := { row := codeSpotsUptoRow, standIns := [], harness := (true, "02b8bb89a7ff9c5472122e1ac132320a55f0abd3ff24dd32b0d9257e3c55778e"), looks := false }, kinds := [], alts := [], laidByText := true, laidKinds := [.data], laidTests := true, laidLooks := .later }
def CodeSpotsUptoCardSaid : Prop := Claim7.holds Tryz.pinned (.plain (OpenSpec.upto codeSpotsSpec)) codeSpotsUptoCard
end Rows
end Go.Proofs.YtonkcnaijcpfdaaGreatDoor
