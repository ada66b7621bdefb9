/-
  DERIVED. GIVEN WITH THE SEED: THE CARDS: each row of YtkadlopcomjonaaDoorRows.lean that lists a variable, with what it lists TIED to the program's text (the seventh form; the later family's looks); each row that meets fmt, with fmt's text TOLD by the authors' own Lean function (tested against real Go, not proved from fmt's source: count such statements apart). THE CARD IS WHAT COUNTS. Prove the row's statement (the work); the ties are given (YtkadlopcomjonaaDoorTie.lean); close each card by the builder's one call (the guide's Derived/Test/ToyasCard.lean, 'card_holds'). Laid BY PROGRAM, IN A SANDBOX (cutbox-door.mjs). By AI agents, Wed Nov 11 2026. No macro, syntax, notation, axiom, sorry.
-/
import Derived.Test.YtkadlopcomjonaaDoorRows
import GoSem.ClaimSeven
namespace Go.Proofs.YtkadlopcomjonaaDoor
namespace Rows

/-- THE TIED CARD OF 'scarablaw13.CanonSames'. -/
def canonSamesCard : Claim7 := { stood := { row := canonSamesRow, standIns := [], harness := (true, "3e184a9939d21ced4a9f0467997263e7b72be962ff44bb3809e440f870af2d04"), looks := false }, kinds := [], alts := [], laidByText := true, laidKinds := [.data, .data, .data], laidTests := true, laidLooks := .later }
def CanonSamesCardSaid : Prop := Claim7.holds Tryd.pinned (.plain (OpenSpec.ofChange canonSamesSpec)) canonSamesCard

/-- THE TIED CARD OF 'scarablaw13.CanonSwaps'. -/
def canonSwapsCard : Claim7 := { stood := { row := canonSwapsRow, standIns := [], harness := (true, "3e184a9939d21ced4a9f0467997263e7b72be962ff44bb3809e440f870af2d04"), looks := false }, kinds := [], alts := [], laidByText := true, laidKinds := [.data, .data, .data], laidTests := true, laidLooks := .later }
def CanonSwapsCardSaid : Prop := Claim7.holds Tryd.pinned (.plain (OpenSpec.ofChange canonSwapsSpec)) canonSwapsCard

/-- THE TIED CARD OF 'scarablaw13.CanonKeys'. -/
def canonKeysCard : Claim7 := { stood := { row := canonKeysRow, standIns := [], harness := (true, "3e184a9939d21ced4a9f0467997263e7b72be962ff44bb3809e440f870af2d04"), looks := false }, kinds := [], alts := [], laidByText := true, laidKinds := [.data, .data, .data], laidTests := true, laidLooks := .later }
def CanonKeysCardSaid : Prop := Claim7.holds Tryd.pinned (.plain (OpenSpec.ofChange canonKeysSpec)) canonKeysCard

/-- THE SECOND FORM's CARD OF 'scarablaw13.CanonSames'. -/
def canonSamesUptoCard : Claim7 := { stood := { row := canonSamesUptoRow, standIns := [], harness := (true, "3e184a9939d21ced4a9f0467997263e7b72be962ff44bb3809e440f870af2d04"), looks := false }, kinds := [], alts := [], laidByText := true, laidKinds := [.data, .data, .data], laidTests := true, laidLooks := .later }
def CanonSamesUptoCardSaid : Prop := Claim7.holds Tryd.pinned (.plain (OpenSpec.upto canonSamesSpec)) canonSamesUptoCard

/-- THE SECOND FORM's CARD OF 'scarablaw13.CanonSwaps'. -/
def canonSwapsUptoCard : Claim7 := { stood := { row := canonSwapsUptoRow, standIns := [], harness := (true, "3e184a9939d21ced4a9f0467997263e7b72be962ff44bb3809e440f870af2d04"), looks := false }, kinds := [], alts := [], laidByText := true, laidKinds := [.data, .data, .data], laidTests := true, laidLooks := .later }
def CanonSwapsUptoCardSaid : Prop := Claim7.holds Tryd.pinned (.plain (OpenSpec.upto canonSwapsSpec)) canonSwapsUptoCard

/-- THE SECOND FORM's CARD OF 'scarablaw13.CanonKeys'. -/
def canonKeysUptoCard : Claim7 := { stood := { row := canonKeysUptoRow, standIns := [], harness := (true, "3e184a9939d21ced4a9f0467997263e7b72be962ff44bb3809e440f870af2d04"), looks := false }, kinds := [], alts := [], laidByText := true, laidKinds := [.data, .data, .data], laidTests := true, laidLooks := .later }
def CanonKeysUptoCardSaid : Prop := Claim7.holds Tryd.pinned (.plain (OpenSpec.upto canonKeysSpec)) canonKeysUptoCard
end Rows
end Go.Proofs.YtkadlopcomjonaaDoor
