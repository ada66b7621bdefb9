/-
  DERIVED. GIVEN WITH THE SEED: THE CARDS: each row of YtpcobaoiglhkkaaDoorRows.lean that lists a variable, with what it lists TIED to the program's text (the seventh form; the later family's looks); each row that meets fmt, with fmt's text TOLD by the authors' own Lean function (tested against real Go, not proved from fmt's source: count such statements apart). THE CARD IS WHAT COUNTS. Prove the row's statement (the work); the ties are given (YtpcobaoiglhkkaaDoorTie.lean); close each card by the builder's one call (the guide's Derived/Test/ToyasCard.lean, 'card_holds'). Laid BY PROGRAM, IN A SANDBOX (cutbox-door.mjs). By AI agents, Wed Nov 11 2026. No macro, syntax, notation, axiom, sorry.
-/
import Derived.Test.YtpcobaoiglhkkaaDoorRows
import GoSem.ClaimSeven
namespace Go.Proofs.YtpcobaoiglhkkaaDoor
namespace Rows

/-- THE TIED CARD OF 'scarablaw03.ProgRegs'. -/
def progRegsCard : Claim7 := { stood := { row := progRegsRow, standIns := [], harness := (true, "9dce082e1c03abe83560ff10565a95c69306f02b3a62b19a7cfea1650c687d01"), looks := false }, kinds := [], alts := [], laidByText := true, laidKinds := [.data], laidTests := true, laidLooks := .later }
def ProgRegsCardSaid : Prop := Claim7.holds Tryd.pinned (.plain (OpenSpec.ofChange progRegsSpec)) progRegsCard

/-- THE TIED CARD OF 'scarablaw03.ProgCounts'. -/
def progCountsCard : Claim7 := { stood := { row := progCountsRow, standIns := [], harness := (true, "9dce082e1c03abe83560ff10565a95c69306f02b3a62b19a7cfea1650c687d01"), looks := false }, kinds := [], alts := [], laidByText := true, laidKinds := [.data], laidTests := true, laidLooks := .later }
def ProgCountsCardSaid : Prop := Claim7.holds Tryd.pinned (.plain (OpenSpec.ofChange progCountsSpec)) progCountsCard

/-- THE TIED CARD OF 'scarablaw03.ProgSpoils'. -/
def progSpoilsCard : Claim7 := { stood := { row := progSpoilsRow, standIns := [], harness := (true, "9dce082e1c03abe83560ff10565a95c69306f02b3a62b19a7cfea1650c687d01"), looks := false }, kinds := [], alts := [], laidByText := true, laidKinds := [.data], laidTests := true, laidLooks := .later }
def ProgSpoilsCardSaid : Prop := Claim7.holds Tryd.pinned (.plain (OpenSpec.ofChange progSpoilsSpec)) progSpoilsCard

/-- THE TIED CARD OF 'scarablaw03.ProgTouches'. -/
def progTouchesCard : Claim7 := { stood := { row := progTouchesRow, standIns := [], harness := (true, "9dce082e1c03abe83560ff10565a95c69306f02b3a62b19a7cfea1650c687d01"), looks := false }, kinds := [], alts := [], laidByText := true, laidKinds := [.data], laidTests := true, laidLooks := .later }
def ProgTouchesCardSaid : Prop := Claim7.holds Tryd.pinned (.plain (OpenSpec.ofChange progTouchesSpec)) progTouchesCard

/-- THE TIED CARD OF 'scarablaw04.CodeBack'. -/
def codeBackCard : Claim7 := { stood := { row := codeBackRow, standIns := [], harness := (true, "9dce082e1c03abe83560ff10565a95c69306f02b3a62b19a7cfea1650c687d01"), looks := false }, kinds := [], alts := [], laidByText := true, laidKinds := [.data], laidTests := true, laidLooks := .later }
def CodeBackCardSaid : Prop := Claim7.holds Tryd.pinned (.plain (OpenSpec.ofChange codeBackSpec)) codeBackCard

/-- THE TIED CARD OF 'scarablaw04.CodeCanon'. -/
def codeCanonCard : Claim7 := { stood := { row := codeCanonRow, standIns := [], harness := (true, "9dce082e1c03abe83560ff10565a95c69306f02b3a62b19a7cfea1650c687d01"), looks := false }, kinds := [], alts := [], laidByText := true, laidKinds := [.data], laidTests := true, laidLooks := .later }
def CodeCanonCardSaid : Prop := Claim7.holds Tryd.pinned (.plain (OpenSpec.ofChange codeCanonSpec)) codeCanonCard

/-- THE TIED CARD OF 'scarablaw04.CodeTells'. -/
def codeTellsCard : Claim7 := { stood := { row := codeTellsRow, standIns := [], harness := (true, "9dce082e1c03abe83560ff10565a95c69306f02b3a62b19a7cfea1650c687d01"), looks := false }, kinds := [], alts := [], laidByText := true, laidKinds := [.data], laidTests := true, laidLooks := .later }
def CodeTellsCardSaid : Prop := Claim7.holds Tryd.pinned (.plain (OpenSpec.ofChange codeTellsSpec)) codeTellsCard

/-- THE TIED CARD OF 'scarablaw04.CodeParts'. -/
def codePartsCard : Claim7 := { stood := { row := codePartsRow, standIns := [], harness := (true, "9dce082e1c03abe83560ff10565a95c69306f02b3a62b19a7cfea1650c687d01"), looks := false }, kinds := [], alts := [], laidByText := true, laidKinds := [.data], laidTests := true, laidLooks := .later }
def CodePartsCardSaid : Prop := Claim7.holds Tryd.pinned (.plain (OpenSpec.ofChange codePartsSpec)) codePartsCard

/-- THE TIED CARD OF 'scarablaw04.CodeApart'. -/
def codeApartCard : Claim7 := { stood := { row := codeApartRow, standIns := [], harness := (true, "9dce082e1c03abe83560ff10565a95c69306f02b3a62b19a7cfea1650c687d01"), looks := false }, kinds := [], alts := [], laidByText := true, laidKinds := [.data], laidTests := true, laidLooks := .later }
def CodeApartCardSaid : Prop := Claim7.holds Tryd.pinned (.plain (OpenSpec.ofChange codeApartSpec)) codeApartCard

/-- THE SECOND FORM's CARD OF 'scarablaw03.ProgRegs'. -/
def progRegsUptoCard : Claim7 := { stood := { row := progRegsUptoRow, standIns := [], harness := (true, "9dce082e1c03abe83560ff10565a95c69306f02b3a62b19a7cfea1650c687d01"), looks := false }, kinds := [], alts := [], laidByText := true, laidKinds := [.data], laidTests := true, laidLooks := .later }
def ProgRegsUptoCardSaid : Prop := Claim7.holds Tryd.pinned (.plain (OpenSpec.upto progRegsSpec)) progRegsUptoCard

/-- THE SECOND FORM's CARD OF 'scarablaw03.ProgCounts'. -/
def progCountsUptoCard : Claim7 := { stood := { row := progCountsUptoRow, standIns := [], harness := (true, "9dce082e1c03abe83560ff10565a95c69306f02b3a62b19a7cfea1650c687d01"), looks := false }, kinds := [], alts := [], laidByText := true, laidKinds := [.data], laidTests := true, laidLooks := .later }
def ProgCountsUptoCardSaid : Prop := Claim7.holds Tryd.pinned (.plain (OpenSpec.upto progCountsSpec)) progCountsUptoCard

/-- THE SECOND FORM's CARD OF 'scarablaw03.ProgSpoils'. -/
def progSpoilsUptoCard : Claim7 := { stood := { row := progSpoilsUptoRow, standIns := [], harness := (true, "9dce082e1c03abe83560ff10565a95c69306f02b3a62b19a7cfea1650c687d01"), looks := false }, kinds := [], alts := [], laidByText := true, laidKinds := [.data], laidTests := true, laidLooks := .later }
def ProgSpoilsUptoCardSaid : Prop := Claim7.holds Tryd.pinned (.plain (OpenSpec.upto progSpoilsSpec)) progSpoilsUptoCard

/-- THE SECOND FORM's CARD OF 'scarablaw03.ProgTouches'. -/
def progTouchesUptoCard : Claim7 := { stood := { row := progTouchesUptoRow, standIns := [], harness := (true, "9dce082e1c03abe83560ff10565a95c69306f02b3a62b19a7cfea1650c687d01"), looks := false }, kinds := [], alts := [], laidByText := true, laidKinds := [.data], laidTests := true, laidLooks := .later }
def ProgTouchesUptoCardSaid : Prop := Claim7.holds Tryd.pinned (.plain (OpenSpec.upto progTouchesSpec)) progTouchesUptoCard

/-- THE SECOND FORM's CARD OF 'scarablaw04.CodeBack'. -/
def codeBackUptoCard : Claim7 := { stood := { row := codeBackUptoRow, standIns := [], harness := (true, "9dce082e1c03abe83560ff10565a95c69306f02b3a62b19a7cfea1650c687d01"), looks := false }, kinds := [], alts := [], laidByText := true, laidKinds := [.data], laidTests := true, laidLooks := .later }
def CodeBackUptoCardSaid : Prop := Claim7.holds Tryd.pinned (.plain (OpenSpec.upto codeBackSpec)) codeBackUptoCard

/-- THE SECOND FORM's CARD OF 'scarablaw04.CodeCanon'. -/
def codeCanonUptoCard : Claim7 := { stood := { row := codeCanonUptoRow, standIns := [], harness := (true, "9dce082e1c03abe83560ff10565a95c69306f02b3a62b19a7cfea1650c687d01"), looks := false }, kinds := [], alts := [], laidByText := true, laidKinds := [.data], laidTests := true, laidLooks := .later }
def CodeCanonUptoCardSaid : Prop := Claim7.holds Tryd.pinned (.plain (OpenSpec.upto codeCanonSpec)) codeCanonUptoCard

/-- THE SECOND FORM's CARD OF 'scarablaw04.CodeTells'. -/
def codeTellsUptoCard : Claim7 := { stood := { row := codeTellsUptoRow, standIns := [], harness := (true, "9dce082e1c03abe83560ff10565a95c69306f02b3a62b19a7cfea1650c687d01"), looks := false }, kinds := [], alts := [], laidByText := true, laidKinds := [.data], laidTests := true, laidLooks := .later }
def CodeTellsUptoCardSaid : Prop := Claim7.holds Tryd.pinned (.plain (OpenSpec.upto codeTellsSpec)) codeTellsUptoCard

/-- THE SECOND FORM's CARD OF 'scarablaw04.CodeParts'. -/
def codePartsUptoCard : Claim7 := { stood := { row := codePartsUptoRow, standIns := [], harness := (true, "9dce082e1c03abe83560ff10565a95c69306f02b3a62b19a7cfea1650c687d01"), looks := false }, kinds := [], alts := [], laidByText := true, laidKinds := [.data], laidTests := true, laidLooks := .later }
def CodePartsUptoCardSaid : Prop := Claim7.holds Tryd.pinned (.plain (OpenSpec.upto codePartsSpec)) codePartsUptoCard

/-- THE SECOND FORM's CARD OF 'scarablaw04.CodeApart'. -/
def codeApartUptoCard : Claim7 := { stood := { row := codeApartUptoRow, standIns := [], harness := (true, "9dce082e1c03abe83560ff10565a95c69306f02b3a62b19a7cfea1650c687d01"), looks := false }, kinds := [], alts := [], laidByText := true, laidKinds := [.data], laidTests := true, laidLooks := .later }
def CodeApartUptoCardSaid : Prop := Claim7.holds Tryd.pinned (.plain (OpenSpec.upto codeApartSpec)) codeApartUptoCard
end Rows
end Go.Proofs.YtpcobaoiglhkkaaDoor
