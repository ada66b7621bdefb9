/-
  DERIVED. GIVEN WITH THE SEED: THE CARDS: each row of YtafefnkgdnmjbaaGreatDoorRows.lean that lists a variable, with what it lists TIED to the program's text (the seventh form; the later family's looks); each row that meets fmt, with fmt's text TOLD by the authors' own Lean function (tested against real Go, not proved from fmt's source: count such statements apart). THE CARD IS WHAT COUNTS. Prove the row's statement (the work); the ties are given (YtafefnkgdnmjbaaGreatDoorTie.lean); close each card by the builder's one call (the guide's Derived/Test/ToyasCard.lean, 'card_holds'). Laid BY PROGRAM, IN A SANDBOX (cutbox-door.mjs). By AI agents, Wed Nov 11 2026. No macro, syntax, notation, axiom, sorry.
-/
import Derived.Test.YtafefnkgdnmjbaaGreatDoorRows
import GoSem.ClaimSeven
namespace Go.Proofs.YtafefnkgdnmjbaaGreatDoor
namespace Rows

/-- THE TIED CARD OF 'scarablaw14.RacePairs'. -/
def racePairsCard : Claim7 := { stood := { row := racePairsRow, standIns := [], harness := (true, "3bd5aae6ec14036cf3ed939ab15c6569626fd6e8aa75c90d0e54bdc61ce9d7d4"), looks := false }, kinds := [], alts := [], laidByText := true, laidKinds := [.data], laidTests := true, laidLooks := .later }
def RacePairsCardSaid : Prop := Claim7.holds Tryz.pinned (.plain (OpenSpec.ofChange racePairsSpec)) racePairsCard

/-- THE TIED CARD OF 'scarablaw14.RaceData'. -/
def raceDataCard : Claim7 := { stood := { row := raceDataRow, standIns := [], harness := (true, "3bd5aae6ec14036cf3ed939ab15c6569626fd6e8aa75c90d0e54bdc61ce9d7d4"), looks := false }, kinds := [], alts := [], laidByText := true, laidKinds := [.data], laidTests := true, laidLooks := .later }
def RaceDataCardSaid : Prop := Claim7.holds Tryz.pinned (.plain (OpenSpec.ofChange raceDataSpec)) raceDataCard

/-- THE TIED CARD OF 'scarablaw14.RaceGuards'. -/
def raceGuardsCard : Claim7 := { stood := { row := raceGuardsRow, standIns := [], harness := (true, "3bd5aae6ec14036cf3ed939ab15c6569626fd6e8aa75c90d0e54bdc61ce9d7d4"), looks := false }, kinds := [], alts := [], laidByText := true, laidKinds := [.data], laidTests := true, laidLooks := .later }
def RaceGuardsCardSaid : Prop := Claim7.holds Tryz.pinned (.plain (OpenSpec.ofChange raceGuardsSpec)) raceGuardsCard

/-- THE TIED CARD OF 'scarablaw14.RaceAsks'. -/
def raceAsksCard : Claim7 := { stood := { row := raceAsksRow, standIns := [], harness := (true, "3bd5aae6ec14036cf3ed939ab15c6569626fd6e8aa75c90d0e54bdc61ce9d7d4"), looks := false }, kinds := [], alts := [], laidByText := true, laidKinds := [.data], laidTests := true, laidLooks := .later }
def RaceAsksCardSaid : Prop := Claim7.holds Tryz.pinned (.plain (OpenSpec.ofChange raceAsksSpec)) raceAsksCard

/-- THE TIED CARD OF 'scarablaw14.RaceMeets'. -/
def raceMeetsCard : Claim7 := { stood := { row := raceMeetsRow, standIns := [], harness := (true, "3bd5aae6ec14036cf3ed939ab15c6569626fd6e8aa75c90d0e54bdc61ce9d7d4"), looks := false }, kinds := [], alts := [], laidByText := true, laidKinds := [.data], laidTests := true, laidLooks := .later }
def RaceMeetsCardSaid : Prop := Claim7.holds Tryz.pinned (.plain (OpenSpec.ofChange raceMeetsSpec)) raceMeetsCard

/-- THE TIED CARD OF 'scarablaw14.RaceClass'. -/
def raceClassCard : Claim7 := { stood := { row := raceClassRow, standIns := [], harness := (true, "3bd5aae6ec14036cf3ed939ab15c6569626fd6e8aa75c90d0e54bdc61ce9d7d4"), looks := false }, kinds := [], alts := [], laidByText := true, laidKinds := [.data], laidTests := true, laidLooks := .later }
def RaceClassCardSaid : Prop := Claim7.holds Tryz.pinned (.plain (OpenSpec.ofChange raceClassSpec)) raceClassCard

/-- THE SECOND FORM's CARD OF 'scarablaw14.RacePairs'. -/
def racePairsUptoCard : Claim7 := { stood := { row := racePairsUptoRow, standIns := [], harness := (true, "3bd5aae6ec14036cf3ed939ab15c6569626fd6e8aa75c90d0e54bdc61ce9d7d4"), looks := false }, kinds := [], alts := [], laidByText := true, laidKinds := [.data], laidTests := true, laidLooks := .later }
def RacePairsUptoCardSaid : Prop := Claim7.holds Tryz.pinned (.plain (OpenSpec.upto racePairsSpec)) racePairsUptoCard

/-- THE SECOND FORM's CARD OF 'scarablaw14.RaceData'. -/
def raceDataUptoCard : Claim7 := { stood := { row := raceDataUptoRow, standIns := [], harness := (true, "3bd5aae6ec14036cf3ed939ab15c6569626fd6e8aa75c90d0e54bdc61ce9d7d4"), looks := false }, kinds := [], alts := [], laidByText := true, laidKinds := [.data], laidTests := true, laidLooks := .later }
def RaceDataUptoCardSaid : Prop := Claim7.holds Tryz.pinned (.plain (OpenSpec.upto raceDataSpec)) raceDataUptoCard

/-- THE SECOND FORM's CARD OF 'scarablaw14.RaceGuards'. -/
def raceGuardsUptoCard : Claim7 := { stood := { row := raceGuardsUptoRow, standIns := [], harness := (true, "3bd5aae6ec14036cf3ed939ab15c6569626fd6e8aa75c90d0e54bdc61ce9d7d4"), looks := false }, kinds := [], alts := [], laidByText := true, laidKinds := [.data], laidTests := true, laidLooks := .later }
def RaceGuardsUptoCardSaid : Prop := Claim7.holds Tryz.pinned (.plain (OpenSpec.upto raceGuardsSpec)) raceGuardsUptoCard

/-- THE SECOND FORM's CARD OF 'scarablaw14.RaceAsks'. -/
def raceAsksUptoCard : Claim7 := { stood := { row := raceAsksUptoRow, standIns := [], harness := (true, "3bd5aae6ec14036cf3ed939ab15c6569626fd6e8aa75c90d0e54bdc61ce9d7d4"), looks := false }, kinds := [], alts := [], laidByText := true, laidKinds := [.data], laidTests := true, laidLooks := .later }
def RaceAsksUptoCardSaid : Prop := Claim7.holds Tryz.pinned (.plain (OpenSpec.upto raceAsksSpec)) raceAsksUptoCard

/-- THE SECOND FORM's CARD OF 'scarablaw14.RaceMeets'. -/
def raceMeetsUptoCard : Claim7 := { stood := { row := raceMeetsUptoRow, standIns := [], harness := (true, "3bd5aae6ec14036cf3ed939ab15c6569626fd6e8aa75c90d0e54bdc61ce9d7d4"), looks := false }, kinds := [], alts := [], laidByText := true, laidKinds := [.data], laidTests := true, laidLooks := .later }
def RaceMeetsUptoCardSaid : Prop := Claim7.holds Tryz.pinned (.plain (OpenSpec.upto raceMeetsSpec)) raceMeetsUptoCard

/-- THE SECOND FORM's CARD OF 'scarablaw14.RaceClass'. -/
def raceClassUptoCard : Claim7 := { stood := { row := raceClassUptoRow, standIns := [], harness := (true, "3bd5aae6ec14036cf3ed939ab15c6569626fd6e8aa75c90d0e54bdc61ce9d7d4"), looks := false }, kinds := [], alts := [], laidByText := true, laidKinds := [.data], laidTests := true, laidLooks := .later }
def RaceClassUptoCardSaid : Prop := Claim7.holds Tryz.pinned (.plain (OpenSpec.upto raceClassSpec)) raceClassUptoCard
end Rows
end Go.Proofs.YtafefnkgdnmjbaaGreatDoor
