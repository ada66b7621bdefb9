/-
  DERIVED. GIVEN WITH THE SEED: THE CARDS: each row of YtaghfahhfockkaaDoorRows.lean that lists a variable, with what it lists TIED to the program's text (the seventh form; the later family's looks); each row that meets fmt, with fmt's text TOLD by the authors' own Lean function (tested against real Go, not proved from fmt's source: count such statements apart). THE CARD IS WHAT COUNTS. Prove the row's statement (the work); the ties are given (YtaghfahhfockkaaDoorTie.lean); close each card by the builder's one call (the guide's Derived/Test/ToyasCard.lean, 'card_holds'). Laid BY PROGRAM, IN A SANDBOX (cutbox-door.mjs). By AI agents, Wed Nov 11 2026. No macro, syntax, notation, axiom, sorry.
-/
import Derived.Test.YtaghfahhfockkaaDoorRows
import GoSem.ClaimSeven
namespace Go.Proofs.YtaghfahhfockkaaDoor
namespace Rows

/-- THE TIED CARD OF 'scarablaw03.ProgRegs'. -/
def progRegsCard : Claim7 := { stood := { row := progRegsRow, standIns := [], harness := (true, "1655fad55d9852813de75f3e0ef1b74a8d1808ab467f0d4e0a45b2e49291fdf4"), looks := false }, kinds := [], alts := [], laidByText := true, laidKinds := [.data], laidTests := true, laidLooks := .later }
def ProgRegsCardSaid : Prop := Claim7.holds Tryd.pinned (.plain (OpenSpec.ofChange progRegsSpec)) progRegsCard

/-- THE TIED CARD OF 'scarablaw03.ProgTouches'. -/
def progTouchesCard : Claim7 := { stood := { row := progTouchesRow, standIns := [], harness := (true, "1655fad55d9852813de75f3e0ef1b74a8d1808ab467f0d4e0a45b2e49291fdf4"), looks := false }, kinds := [], alts := [], laidByText := true, laidKinds := [.data], laidTests := true, laidLooks := .later }
def ProgTouchesCardSaid : Prop := Claim7.holds Tryd.pinned (.plain (OpenSpec.ofChange progTouchesSpec)) progTouchesCard

/-- THE TIED CARD OF 'scarablaw04.CodeBack'. -/
def codeBackCard : Claim7 := { stood := { row := codeBackRow, standIns := [], harness := (true, "1655fad55d9852813de75f3e0ef1b74a8d1808ab467f0d4e0a45b2e49291fdf4"), looks := false }, kinds := [], alts := [], laidByText := true, laidKinds := [.data], laidTests := true, laidLooks := .later }
def CodeBackCardSaid : Prop := Claim7.holds Tryd.pinned (.plain (OpenSpec.ofChange codeBackSpec)) codeBackCard

/-- THE SECOND FORM's CARD OF 'scarablaw03.ProgRegs'. -/
def progRegsUptoCard : Claim7 := { stood := { row := progRegsUptoRow, standIns := [], harness := (true, "1655fad55d9852813de75f3e0ef1b74a8d1808ab467f0d4e0a45b2e49291fdf4"), looks := false }, kinds := [], alts := [], laidByText := true, laidKinds := [.data], laidTests := true, laidLooks := .later }
def ProgRegsUptoCardSaid : Prop := Claim7.holds Tryd.pinned (.plain (OpenSpec.upto progRegsSpec)) progRegsUptoCard

/-- THE SECOND FORM's CARD OF 'scarablaw03.ProgTouches'. -/
def progTouchesUptoCard : Claim7 := { stood := { row := progTouchesUptoRow, standIns := [], harness := (true, "1655fad55d9852813de75f3e0ef1b74a8d1808ab467f0d4e0a45b2e49291fdf4"), looks := false }, kinds := [], alts := [], laidByText := true, laidKinds := [.data], laidTests := true, laidLooks := .later }
def ProgTouchesUptoCardSaid : Prop := Claim7.holds Tryd.pinned (.plain (OpenSpec.upto progTouchesSpec)) progTouchesUptoCard

/-- THE SECOND FORM's CARD OF 'scarablaw04.CodeBack'. -/
def codeBackUptoCard : Claim7 := { stood := { row := codeBackUptoRow, standIns := [], harness := (true, "1655fad55d9852813de75f3e0ef1b74a8d1808ab467f0d4e0a45b2e49291fdf4"), looks := false }, kinds := [], alts := [], laidByText := true, laidKinds := [.data], laidTests := true, laidLooks := .later }
def CodeBackUptoCardSaid : Prop := Claim7.holds Tryd.pinned (.plain (OpenSpec.upto codeBackSpec)) codeBackUptoCard
end Rows
end Go.Proofs.YtaghfahhfockkaaDoor
