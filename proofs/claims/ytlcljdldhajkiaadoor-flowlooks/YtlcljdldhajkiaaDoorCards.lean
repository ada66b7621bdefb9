/-
  DERIVED. GIVEN WITH THE SEED: THE CARDS: each row of YtlcljdldhajkiaaDoorRows.lean that lists a variable, with what it lists TIED to the program's text (the seventh form; the later family's looks); each row that meets fmt, with fmt's text TOLD by the authors' own Lean function (tested against real Go, not proved from fmt's source: count such statements apart). THE CARD IS WHAT COUNTS. Prove the row's statement (the work); the ties are given (YtlcljdldhajkiaaDoorTie.lean); close each card by the builder's one call (the guide's Derived/Test/ToyasCard.lean, 'card_holds'). Laid BY PROGRAM, IN A SANDBOX (cutbox-door.mjs). By AI agents, Wed Nov 11 2026. No macro, syntax, notation, axiom, sorry.
-/
import Derived.Test.YtlcljdldhajkiaaDoorRows
import GoSem.ClaimSeven
namespace Go.Proofs.YtlcljdldhajkiaaDoor
namespace Rows

/-- THE TIED CARD OF 'scarablaw06.FlowTouches'. -/
def flowTouchesCard : Claim7 := { stood := { row := flowTouchesRow, standIns := [], harness := (true, "f05b4e67c43ba2d1acf8458000cf8c9219a02c65d95d2378279bfbfa85e46933"), looks := false }, kinds := [], alts := [], laidByText := true, laidKinds := [.data], laidTests := true, laidLooks := .later }
def FlowTouchesCardSaid : Prop := Claim7.holds Tryd.pinned (.plain (OpenSpec.ofChange flowTouchesSpec)) flowTouchesCard

/-- THE TIED CARD OF 'scarablaw06.FlowLooks'. -/
def flowLooksCard : Claim7 := { stood := { row := flowLooksRow, standIns := [], harness := (true, "f05b4e67c43ba2d1acf8458000cf8c9219a02c65d95d2378279bfbfa85e46933"), looks := false }, kinds := [], alts := [], laidByText := true, laidKinds := [.data], laidTests := true, laidLooks := .later }
def FlowLooksCardSaid : Prop := Claim7.holds Tryd.pinned (.plain (OpenSpec.ofChange flowLooksSpec)) flowLooksCard

/-- THE TIED CARD OF 'scarablaw06.FlowHolds'. -/
def flowHoldsCard : Claim7 := { stood := { row := flowHoldsRow, standIns := [], harness := (true, "f05b4e67c43ba2d1acf8458000cf8c9219a02c65d95d2378279bfbfa85e46933"), looks := false }, kinds := [], alts := [], laidByText := true, laidKinds := [.data], laidTests := true, laidLooks := .later }
def FlowHoldsCardSaid : Prop := Claim7.holds Tryd.pinned (.plain (OpenSpec.ofChange flowHoldsSpec)) flowHoldsCard

/-- THE SECOND FORM's CARD OF 'scarablaw06.FlowTouches'. -/
def flowTouchesUptoCard : Claim7 := { stood := { row := flowTouchesUptoRow, standIns := [], harness := (true, "f05b4e67c43ba2d1acf8458000cf8c9219a02c65d95d2378279bfbfa85e46933"), looks := false }, kinds := [], alts := [], laidByText := true, laidKinds := [.data], laidTests := true, laidLooks := .later }
def FlowTouchesUptoCardSaid : Prop := Claim7.holds Tryd.pinned (.plain (OpenSpec.upto flowTouchesSpec)) flowTouchesUptoCard

/-- THE SECOND FORM's CARD OF 'scarablaw06.FlowLooks'. -/
def flowLooksUptoCard : Claim7 := { stood := { row := flowLooksUptoRow, standIns := [], harness := (true, "f05b4e67c43ba2d1acf8458000cf8c9219a02c65d95d2378279bfbfa85e46933"), looks := false }, kinds := [], alts := [], laidByText := true, laidKinds := [.data], laidTests := true, laidLooks := .later }
def FlowLooksUptoCardSaid : Prop := Claim7.holds Tryd.pinned (.plain (OpenSpec.upto flowLooksSpec)) flowLooksUptoCard

/-- THE SECOND FORM's CARD OF 'scarablaw06.FlowHolds'. -/
def flowHoldsUptoCard : Claim7 := { stood := { row := flowHoldsUptoRow, standIns := [], harness := (true, "f05b4e67c43ba2d1acf8458000cf8c9219a02c65d95d2378279bfbfa85e46933"), looks := false }, kinds := [], alts := [], laidByText := true, laidKinds := [.data], laidTests := true, laidLooks := .later }
def FlowHoldsUptoCardSaid : Prop := Claim7.holds Tryd.pinned (.plain (OpenSpec.upto flowHoldsSpec)) flowHoldsUptoCard
end Rows
end Go.Proofs.YtlcljdldhajkiaaDoor
