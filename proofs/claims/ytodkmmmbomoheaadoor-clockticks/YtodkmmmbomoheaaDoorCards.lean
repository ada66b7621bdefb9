/-
  DERIVED. GIVEN WITH THE SEED: THE CARDS: each row of YtodkmmmbomoheaaDoorRows.lean that lists a variable, with what it lists TIED to the program's text (the seventh form; the later family's looks); each row that meets fmt, with fmt's text TOLD by the authors' own Lean function (tested against real Go, not proved from fmt's source: count such statements apart). THE CARD IS WHAT COUNTS. Prove the row's statement (the work); the ties are given (YtodkmmmbomoheaaDoorTie.lean); close each card by the builder's one call (the guide's Derived/Test/ToyasCard.lean, 'card_holds'). Laid BY PROGRAM, IN A SANDBOX (cutbox-door.mjs). By AI agents, Wed Nov 11 2026. No macro, syntax, notation, axiom, sorry.
-/
import Derived.Test.YtodkmmmbomoheaaDoorRows
import GoSem.ClaimSeven
namespace Go.Proofs.YtodkmmmbomoheaaDoor
namespace Rows

/-- THE TIED CARD OF 'scarablaw11.ClockJoins'. -/
def clockJoinsCard : Claim7 := { stood := { row := clockJoinsRow, standIns := [], harness := (true, "fb7865bc20168b36c5b9ff9e15a60f2a3d16515f7e8cacd49bc665f6031314bc"), looks := true }, kinds := [], alts := [], laidByText := true, laidKinds := [.data, .data, .data], laidTests := true, laidLooks := .later }
def ClockJoinsCardSaid : Prop := Claim7.holds Tryd.pinned (.plain (OpenSpec.ofChange clockJoinsSpec)) clockJoinsCard

/-- THE TIED CARD OF 'scarablaw11.ClockTicks'. -/
def clockTicksCard : Claim7 := { stood := { row := clockTicksRow, standIns := [], harness := (true, "fb7865bc20168b36c5b9ff9e15a60f2a3d16515f7e8cacd49bc665f6031314bc"), looks := true }, kinds := [], alts := [], laidByText := true, laidKinds := [.data, .data, .data, .data, .sentinel, .sentinel, .pinned], laidTests := true, laidLooks := .later }
def ClockTicksCardSaid : Prop := Claim7.holds Tryd.pinned (.plain (OpenSpec.ofChange clockTicksSpec)) clockTicksCard

/-- THE TIED CARD OF 'scarablaw11.ClockLists'. -/
def clockListsCard : Claim7 := { stood := { row := clockListsRow, standIns := [], harness := (true, "fb7865bc20168b36c5b9ff9e15a60f2a3d16515f7e8cacd49bc665f6031314bc"), looks := true }, kinds := [], alts := [], laidByText := true, laidKinds := [.data, .data, .data], laidTests := true, laidLooks := .later }
def ClockListsCardSaid : Prop := Claim7.holds Tryd.pinned (.plain (OpenSpec.ofChange clockListsSpec)) clockListsCard

/-- THE TIED CARD OF 'scarablaw11.ClockLattice'. -/
def clockLatticeCard : Claim7 := { stood := { row := clockLatticeRow, standIns := [], harness := (true, "fb7865bc20168b36c5b9ff9e15a60f2a3d16515f7e8cacd49bc665f6031314bc"), looks := true }, kinds := [], alts := [], laidByText := true, laidKinds := [.data, .data, .data], laidTests := true, laidLooks := .later }
def ClockLatticeCardSaid : Prop := Claim7.holds Tryd.pinned (.plain (OpenSpec.ofChange clockLatticeSpec)) clockLatticeCard

/-- THE TIED CARD OF 'scarablaw11.ClockLeast'. -/
def clockLeastCard : Claim7 := { stood := { row := clockLeastRow, standIns := [], harness := (true, "fb7865bc20168b36c5b9ff9e15a60f2a3d16515f7e8cacd49bc665f6031314bc"), looks := true }, kinds := [], alts := [], laidByText := true, laidKinds := [.data, .data, .data], laidTests := true, laidLooks := .later }
def ClockLeastCardSaid : Prop := Claim7.holds Tryd.pinned (.plain (OpenSpec.ofChange clockLeastSpec)) clockLeastCard

/-- THE TIED CARD OF 'scarablaw11.ClockOrder'. -/
def clockOrderCard : Claim7 := { stood := { row := clockOrderRow, standIns := [], harness := (true, "fb7865bc20168b36c5b9ff9e15a60f2a3d16515f7e8cacd49bc665f6031314bc"), looks := true }, kinds := [], alts := [], laidByText := true, laidKinds := [.data, .data, .data], laidTests := true, laidLooks := .later }
def ClockOrderCardSaid : Prop := Claim7.holds Tryd.pinned (.plain (OpenSpec.ofChange clockOrderSpec)) clockOrderCard

/-- THE SECOND FORM's CARD OF 'scarablaw11.ClockJoins'. -/
def clockJoinsUptoCard : Claim7 := { stood := { row := clockJoinsUptoRow, standIns := [], harness := (true, "fb7865bc20168b36c5b9ff9e15a60f2a3d16515f7e8cacd49bc665f6031314bc"), looks := true }, kinds := [], alts := [], laidByText := true, laidKinds := [.data, .data, .data], laidTests := true, laidLooks := .later }
def ClockJoinsUptoCardSaid : Prop := Claim7.holds Tryd.pinned (.plain (OpenSpec.upto clockJoinsSpec)) clockJoinsUptoCard

/-- THE SECOND FORM's CARD OF 'scarablaw11.ClockTicks'. -/
def clockTicksUptoCard : Claim7 := { stood := { row := clockTicksUptoRow, standIns := [], harness := (true, "fb7865bc20168b36c5b9ff9e15a60f2a3d16515f7e8cacd49bc665f6031314bc"), looks := true }, kinds := [], alts := [], laidByText := true, laidKinds := [.data, .data, .data, .data, .sentinel, .sentinel, .pinned], laidTests := true, laidLooks := .later }
def ClockTicksUptoCardSaid : Prop := Claim7.holds Tryd.pinned (.plain (OpenSpec.upto clockTicksSpec)) clockTicksUptoCard

/-- THE SECOND FORM's CARD OF 'scarablaw11.ClockLists'. -/
def clockListsUptoCard : Claim7 := { stood := { row := clockListsUptoRow, standIns := [], harness := (true, "fb7865bc20168b36c5b9ff9e15a60f2a3d16515f7e8cacd49bc665f6031314bc"), looks := true }, kinds := [], alts := [], laidByText := true, laidKinds := [.data, .data, .data], laidTests := true, laidLooks := .later }
def ClockListsUptoCardSaid : Prop := Claim7.holds Tryd.pinned (.plain (OpenSpec.upto clockListsSpec)) clockListsUptoCard

/-- THE SECOND FORM's CARD OF 'scarablaw11.ClockLattice'. -/
def clockLatticeUptoCard : Claim7 := { stood := { row := clockLatticeUptoRow, standIns := [], harness := (true, "fb7865bc20168b36c5b9ff9e15a60f2a3d16515f7e8cacd49bc665f6031314bc"), looks := true }, kinds := [], alts := [], laidByText := true, laidKinds := [.data, .data, .data], laidTests := true, laidLooks := .later }
def ClockLatticeUptoCardSaid : Prop := Claim7.holds Tryd.pinned (.plain (OpenSpec.upto clockLatticeSpec)) clockLatticeUptoCard

/-- THE SECOND FORM's CARD OF 'scarablaw11.ClockLeast'. -/
def clockLeastUptoCard : Claim7 := { stood := { row := clockLeastUptoRow, standIns := [], harness := (true, "fb7865bc20168b36c5b9ff9e15a60f2a3d16515f7e8cacd49bc665f6031314bc"), looks := true }, kinds := [], alts := [], laidByText := true, laidKinds := [.data, .data, .data], laidTests := true, laidLooks := .later }
def ClockLeastUptoCardSaid : Prop := Claim7.holds Tryd.pinned (.plain (OpenSpec.upto clockLeastSpec)) clockLeastUptoCard

/-- THE SECOND FORM's CARD OF 'scarablaw11.ClockOrder'. -/
def clockOrderUptoCard : Claim7 := { stood := { row := clockOrderUptoRow, standIns := [], harness := (true, "fb7865bc20168b36c5b9ff9e15a60f2a3d16515f7e8cacd49bc665f6031314bc"), looks := true }, kinds := [], alts := [], laidByText := true, laidKinds := [.data, .data, .data], laidTests := true, laidLooks := .later }
def ClockOrderUptoCardSaid : Prop := Claim7.holds Tryd.pinned (.plain (OpenSpec.upto clockOrderSpec)) clockOrderUptoCard
end Rows
end Go.Proofs.YtodkmmmbomoheaaDoor
