/-
  DERIVED. GIVEN WITH THE SEED: THE CARDS: each row of YtkhfimfjndmdlaaDoorRows.lean that lists a variable, with what it lists TIED to the program's text (the seventh form; the later family's looks); each row that meets fmt, with fmt's text TOLD by the authors' own Lean function (tested against real Go, not proved from fmt's source: count such statements apart). THE CARD IS WHAT COUNTS. Prove the row's statement (the work); the ties are given (YtkhfimfjndmdlaaDoorTie.lean); close each card by the builder's one call (the guide's Derived/Test/ToyasCard.lean, 'card_holds'). Laid BY PROGRAM, IN A SANDBOX (cutbox-door.mjs). By AI agents, Wed Nov 11 2026. No macro, syntax, notation, axiom, sorry.
-/
import Derived.Test.YtkhfimfjndmdlaaDoorRows
import GoSem.ClaimSeven
namespace Go.Proofs.YtkhfimfjndmdlaaDoor
namespace Rows

/-- THE TIED CARD OF 'scarablaw04.CodeBack'. -/
def codeBackCard : Claim7 := { stood := { row := codeBackRow, standIns := [], harness := (true, "53cb05d6dcf05f75b9d6866a8a7fa79080b9b31856ae71d610dd75bdd920d97f"), looks := false }, kinds := [], alts := [], laidByText := true, laidKinds := [.data], laidTests := true, laidLooks := .later }
def CodeBackCardSaid : Prop := Claim7.holds Tryd.pinned (.plain (OpenSpec.ofChange codeBackSpec)) codeBackCard

/-- THE TIED CARD OF 'scarablaw04.CodeCanon'. -/
def codeCanonCard : Claim7 := { stood := { row := codeCanonRow, standIns := [], harness := (true, "53cb05d6dcf05f75b9d6866a8a7fa79080b9b31856ae71d610dd75bdd920d97f"), looks := false }, kinds := [], alts := [], laidByText := true, laidKinds := [.data], laidTests := true, laidLooks := .later }
def CodeCanonCardSaid : Prop := Claim7.holds Tryd.pinned (.plain (OpenSpec.ofChange codeCanonSpec)) codeCanonCard

/-- THE TIED CARD OF 'scarablaw04.CodeTells'. -/
def codeTellsCard : Claim7 := { stood := { row := codeTellsRow, standIns := [], harness := (true, "53cb05d6dcf05f75b9d6866a8a7fa79080b9b31856ae71d610dd75bdd920d97f"), looks := false }, kinds := [], alts := [], laidByText := true, laidKinds := [.data], laidTests := true, laidLooks := .later }
def CodeTellsCardSaid : Prop := Claim7.holds Tryd.pinned (.plain (OpenSpec.ofChange codeTellsSpec)) codeTellsCard

/-- THE TIED CARD OF 'scarablaw04.CodeParts'. -/
def codePartsCard : Claim7 := { stood := { row := codePartsRow, standIns := [], harness := (true, "53cb05d6dcf05f75b9d6866a8a7fa79080b9b31856ae71d610dd75bdd920d97f"), looks := false }, kinds := [], alts := [], laidByText := true, laidKinds := [.data], laidTests := true, laidLooks := .later }
def CodePartsCardSaid : Prop := Claim7.holds Tryd.pinned (.plain (OpenSpec.ofChange codePartsSpec)) codePartsCard

/-- THE SECOND FORM's CARD OF 'scarablaw04.CodeBack'. -/
def codeBackUptoCard : Claim7 := { stood := { row := codeBackUptoRow, standIns := [], harness := (true, "53cb05d6dcf05f75b9d6866a8a7fa79080b9b31856ae71d610dd75bdd920d97f"), looks := false }, kinds := [], alts := [], laidByText := true, laidKinds := [.data], laidTests := true, laidLooks := .later }
def CodeBackUptoCardSaid : Prop := Claim7.holds Tryd.pinned (.plain (OpenSpec.upto codeBackSpec)) codeBackUptoCard

/-- THE SECOND FORM's CARD OF 'scarablaw04.CodeCanon'. -/
def codeCanonUptoCard : Claim7 := { stood := { row := codeCanonUptoRow, standIns := [], harness := (true, "53cb05d6dcf05f75b9d6866a8a7fa79080b9b31856ae71d610dd75bdd920d97f"), looks := false }, kinds := [], alts := [], laidByText := true, laidKinds := [.data], laidTests := true, laidLooks := .later }
def CodeCanonUptoCardSaid : Prop := Claim7.holds Tryd.pinned (.plain (OpenSpec.upto codeCanonSpec)) codeCanonUptoCard

/-- THE SECOND FORM's CARD OF 'scarablaw04.CodeTells'. -/
def codeTellsUptoCard : Claim7 := { stood := { row := codeTellsUptoRow, standIns := [], harness := (true, "53cb05d6dcf05f75b9d6866a8a7fa79080b9b31856ae71d610dd75bdd920d97f"), looks := false }, kinds := [], alts := [], laidByText := true, laidKinds := [.data], laidTests := true, laidLooks := .later }
def CodeTellsUptoCardSaid : Prop := Claim7.holds Tryd.pinned (.plain (OpenSpec.upto codeTellsSpec)) codeTellsUptoCard

/-- THE SECOND FORM's CARD OF 'scarablaw04.CodeParts'. -/
def codePartsUptoCard : Claim7 := { stood := { row := codePartsUptoRow, standIns := [], harness := (true, "53cb05d6dcf05f75b9d6866a8a7fa79080b9b31856ae71d610dd75bdd920d97f"), looks := false }, kinds := [], alts := [], laidByText := true, laidKinds := [.data], laidTests := true, laidLooks := .later }
def CodePartsUptoCardSaid : Prop := Claim7.holds Tryd.pinned (.plain (OpenSpec.upto codePartsSpec)) codePartsUptoCard
end Rows
end Go.Proofs.YtkhfimfjndmdlaaDoor
