/-
  NARROWER THAN 'FOR EVERY INPUT', by the rows' own cells (each row's printed sentence says how): StateStarts: laid · StateSettles: laid · StateValids: laid · StateKeeps: laid · StateSums: laid · StateApart: laid.
  DERIVED. THE GIVEN ROWS OF THIS SEAT. 6 by the template 'for every input the law returns true; each argument reads behind the call as it read before'; 0 by the template 'total and deterministic' (their statements: YtjcmhaaohdmjpaaDoorTotals.lean).
  GIVEN WITH THE SEED: the statements are not yours to turn. If you find one false, say at which input.
  Laid BY PROGRAM, IN A SANDBOX (cutbox-rows.mjs): the forced cells as the released guide's own fill.sh prints them over the translation 573c2b1537903e45… (all of the seat's roots in one cut). By AI agents, Wed Nov 11 2026. No macro, syntax, notation, axiom, sorry.
-/
import Derived.Test.YtjcmhaaohdmjpaaDoorChecked
import GoSem.Claim
import GoSem.ClaimJoined
import GoSem.ClaimMapViews
import Derived.JoinedTies
import Derived.KernelRfl
namespace Go.Proofs.YtjcmhaaohdmjpaaDoor
/- THE CELL 'sum', in the pinned program and in every row, IS THE sha256 OF THE DUMP (.gsa) THAT YtjcmhaaohdmjpaaDoorProg.lean LOADS. Nothing in Lean hashes anything: it is a label: what it is worth is what the hold of that sum in a sandbox is worth. -/
noncomputable def Tryd.pinned : Pinned := { name := "ytjcmhaaohdmjpaadoor", sum := "573c2b1537903e4585c9a90d68612f331ac7eb3aee9b8fea48720777fb226f21", checked := Tryd.checked }
namespace Rows
def none {H : Type} : Left H := { results := [], args := [] }

/- WHAT THE LISTED PACKAGE-LEVEL VARIABLES READ AS WHEN THE CALL BEGINS. Each datum BY PROGRAM (the guide's laid-datum.mjs) off the statement by which the dump's own 'gosem.cut.vars' lays the variable. In a bare row this is a premise. The card (YtjcmhaaohdmjpaaDoorCards.lean) ties it to the program's text. -/
def laid_scarab_prog_forms {H : Type} : DataW H := .agg [.lit (.string []), .lit (.string []), .lit (.string []), .lit (.string []), .lit (.string []), .lit (.string []), .lit (.string []), .lit (.string []), .lit (.string []), .lit (.string []), .lit (.string []), .lit (.string []), .lit (.string []), .lit (.string []), .lit (.string []), .lit (.string []), .lit (.string []), .lit (.string []), .lit (.string []), .lit (.string []), .lit (.string []), .lit (.string []), .lit (.string []), .lit (.string []), .lit (.string []), .lit (.string []), .lit (.string []), .lit (.string []), .lit (.string []), .lit (.string []), .lit (.string []), .lit (.string []), .lit (.string []), .lit (.string []), .lit (.string []), .lit (.string []), .lit (.string []), .lit (.string []), .lit (.string []), .lit (.string []), .lit (.string [114, 45, 45, 110]), .lit (.string [114, 114, 45, 45]), .lit (.string [116, 45, 45, 45]), .lit (.string [114, 116, 45, 45]), .lit (.string [114, 45, 45, 110]), .lit (.string [45, 45, 45, 45]), .lit (.string []), .lit (.string []), .lit (.string []), .lit (.string []), .lit (.string [114, 118, 45, 45]), .lit (.string [118, 114, 45, 45]), .lit (.string [111, 97, 114, 45]), .lit (.string [114, 97, 114, 119]), .lit (.string [97, 114, 45, 45]), .lit (.string [108, 45, 45, 45]), .lit (.string [108, 45, 45, 45]), .lit (.string [114, 108, 45, 45]), .lit (.string [99, 114, 45, 45]), .lit (.string [111, 99, 111, 45]), .lit (.string [99, 45, 45, 45]), .lit (.string [115, 45, 45, 45]), .lit (.string [111, 102, 112, 45]), .lit (.string [114, 45, 45, 45]), .lit (.string [45, 45, 45, 45]), .lit (.string [114, 45, 45, 110])]

/-- 'scarablaw07.StateStarts': WHATEVER THE INPUT: true; the input reads as it did. -/
def stateStartsSpec : ChangeSpec := { name := "stateStarts", fn := fun _ => fun
  | [d1, d2] => { results := [.lit (.bool true)], args := [d1, d2] }
  | _ => none }
def stateStartsRow : OpenClaim := { program := "ytjcmhaaohdmjpaadoor", sum := "573c2b1537903e4585c9a90d68612f331ac7eb3aee9b8fea48720777fb226f21", func := "scarab/scarablaw07.StateStarts", spec := "stateStarts", named := ["scarab/prog.forms"], apart := false, laid := [("scarab/prog.forms", laid_scarab_prog_forms)] }
def StateStartsSaid : Prop := stateStartsRow.holds Tryd.pinned (OpenSpec.ofChange stateStartsSpec)

/-- ITS FALSE NEIGHBOUR: 'it returns false'. Refute it at one input. -/
def stateStartsWrong : ChangeSpec := { name := "stateStarts", fn := fun _ => fun
  | [d1, d2] => { results := [.lit (.bool false)], args := [d1, d2] }
  | _ => none }
def StateStartsWrongFalsely : Prop := stateStartsRow.holds Tryd.pinned (OpenSpec.ofChange stateStartsWrong)

/-- 'scarablaw07.StateSettles': WHATEVER THE INPUT: true; the input reads as it did. -/
def stateSettlesSpec : ChangeSpec := { name := "stateSettles", fn := fun _ => fun
  | [d] => { results := [.lit (.bool true)], args := [d] }
  | _ => none }
def stateSettlesRow : OpenClaim := { program := "ytjcmhaaohdmjpaadoor", sum := "573c2b1537903e4585c9a90d68612f331ac7eb3aee9b8fea48720777fb226f21", func := "scarab/scarablaw07.StateSettles", spec := "stateSettles", named := ["scarab/prog.forms"], apart := false, laid := [("scarab/prog.forms", laid_scarab_prog_forms)] }
def StateSettlesSaid : Prop := stateSettlesRow.holds Tryd.pinned (OpenSpec.ofChange stateSettlesSpec)

/-- ITS FALSE NEIGHBOUR: 'it returns false'. Refute it at one input. -/
def stateSettlesWrong : ChangeSpec := { name := "stateSettles", fn := fun _ => fun
  | [d] => { results := [.lit (.bool false)], args := [d] }
  | _ => none }
def StateSettlesWrongFalsely : Prop := stateSettlesRow.holds Tryd.pinned (OpenSpec.ofChange stateSettlesWrong)

/-- 'scarablaw07.StateValids': WHATEVER THE INPUT: true; the input reads as it did. -/
def stateValidsSpec : ChangeSpec := { name := "stateValids", fn := fun _ => fun
  | [d] => { results := [.lit (.bool true)], args := [d] }
  | _ => none }
def stateValidsRow : OpenClaim := { program := "ytjcmhaaohdmjpaadoor", sum := "573c2b1537903e4585c9a90d68612f331ac7eb3aee9b8fea48720777fb226f21", func := "scarab/scarablaw07.StateValids", spec := "stateValids", named := ["scarab/prog.forms"], apart := false, laid := [("scarab/prog.forms", laid_scarab_prog_forms)] }
def StateValidsSaid : Prop := stateValidsRow.holds Tryd.pinned (OpenSpec.ofChange stateValidsSpec)

/-- ITS FALSE NEIGHBOUR: 'it returns false'. Refute it at one input. -/
def stateValidsWrong : ChangeSpec := { name := "stateValids", fn := fun _ => fun
  | [d] => { results := [.lit (.bool false)], args := [d] }
  | _ => none }
def StateValidsWrongFalsely : Prop := stateValidsRow.holds Tryd.pinned (OpenSpec.ofChange stateValidsWrong)

/-- 'scarablaw07.StateKeeps': WHATEVER THE INPUT: true; the input reads as it did. -/
def stateKeepsSpec : ChangeSpec := { name := "stateKeeps", fn := fun _ => fun
  | [d] => { results := [.lit (.bool true)], args := [d] }
  | _ => none }
def stateKeepsRow : OpenClaim := { program := "ytjcmhaaohdmjpaadoor", sum := "573c2b1537903e4585c9a90d68612f331ac7eb3aee9b8fea48720777fb226f21", func := "scarab/scarablaw07.StateKeeps", spec := "stateKeeps", named := ["scarab/prog.forms"], apart := false, laid := [("scarab/prog.forms", laid_scarab_prog_forms)] }
def StateKeepsSaid : Prop := stateKeepsRow.holds Tryd.pinned (OpenSpec.ofChange stateKeepsSpec)

/-- ITS FALSE NEIGHBOUR: 'it returns false'. Refute it at one input. -/
def stateKeepsWrong : ChangeSpec := { name := "stateKeeps", fn := fun _ => fun
  | [d] => { results := [.lit (.bool false)], args := [d] }
  | _ => none }
def StateKeepsWrongFalsely : Prop := stateKeepsRow.holds Tryd.pinned (OpenSpec.ofChange stateKeepsWrong)

/-- 'scarablaw07.StateSums': WHATEVER THE INPUT: true; the input reads as it did. -/
def stateSumsSpec : ChangeSpec := { name := "stateSums", fn := fun _ => fun
  | [d1, d2] => { results := [.lit (.bool true)], args := [d1, d2] }
  | _ => none }
def stateSumsRow : OpenClaim := { program := "ytjcmhaaohdmjpaadoor", sum := "573c2b1537903e4585c9a90d68612f331ac7eb3aee9b8fea48720777fb226f21", func := "scarab/scarablaw07.StateSums", spec := "stateSums", named := ["scarab/prog.forms"], apart := false, laid := [("scarab/prog.forms", laid_scarab_prog_forms)] }
def StateSumsSaid : Prop := stateSumsRow.holds Tryd.pinned (OpenSpec.ofChange stateSumsSpec)

/-- ITS FALSE NEIGHBOUR: 'it returns false'. Refute it at one input. -/
def stateSumsWrong : ChangeSpec := { name := "stateSums", fn := fun _ => fun
  | [d1, d2] => { results := [.lit (.bool false)], args := [d1, d2] }
  | _ => none }
def StateSumsWrongFalsely : Prop := stateSumsRow.holds Tryd.pinned (OpenSpec.ofChange stateSumsWrong)

/-- 'scarablaw07.StateApart': WHATEVER THE INPUT: true; the input reads as it did. -/
def stateApartSpec : ChangeSpec := { name := "stateApart", fn := fun _ => fun
  | [d1, d2] => { results := [.lit (.bool true)], args := [d1, d2] }
  | _ => none }
def stateApartRow : OpenClaim := { program := "ytjcmhaaohdmjpaadoor", sum := "573c2b1537903e4585c9a90d68612f331ac7eb3aee9b8fea48720777fb226f21", func := "scarab/scarablaw07.StateApart", spec := "stateApart", named := ["scarab/prog.forms"], apart := false, laid := [("scarab/prog.forms", laid_scarab_prog_forms)] }
def StateApartSaid : Prop := stateApartRow.holds Tryd.pinned (OpenSpec.ofChange stateApartSpec)

/-- ITS FALSE NEIGHBOUR: 'it returns false'. Refute it at one input. -/
def stateApartWrong : ChangeSpec := { name := "stateApart", fn := fun _ => fun
  | [d1, d2] => { results := [.lit (.bool false)], args := [d1, d2] }
  | _ => none }
def StateApartWrongFalsely : Prop := stateApartRow.holds Tryd.pinned (OpenSpec.ofChange stateApartWrong)

/- THE SECOND FORM. 'bulk': how many values and letters a reading holds, each counted each time it is reached (what is shared counts as often as it is met; a slice's spare places count too). A statement '..UptoSaid' is the law's where the arguments, and the package variables that the reading takes, are together of bulk at most 1048576: NARROWER than '..Said'. Prove '..Said' where nothing that the law and all that it calls make is longer than what came in: it says more and counts as full. Else prove '..UptoSaid'. A law counts once. -/
mutual
def uptoBulk {H : Type} : DataW H → Nat
  | .lit (.string bytes) => bytes.length + 1
  | .lit _ => 1
  | .nil => 1
  | .ptr d => uptoBulk d + 1
  | .slice elems spare => uptoBulkAll elems + uptoBulkAll spare + 1
  | .agg parts => uptoBulkAll parts + 1
  | .iface _ d => uptoBulk d + 1
  | .map entries => uptoBulkEntries entries + 1
  | .held _ => 1
def uptoBulkAll {H : Type} : List (DataW H) → Nat
  | [] => 0
  | d :: r => uptoBulk d + uptoBulkAll r
def uptoBulkEntries {H : Type} : List (Lit × DataW H) → Nat
  | [] => 0
  | x :: r => uptoBulkEntry x + uptoBulkEntries r
def uptoBulkEntry {H : Type} : Lit × DataW H → Nat
  | (.string bytes, d) => bytes.length + uptoBulk d + 1
  | (_, d) => uptoBulk d + 1
 end
def uptoSmall : (H : Type) → List (DataW H) → Bool := fun _ ds => decide (uptoBulkAll ds ≤ 1048576)
def OpenSpec.upto (s : _root_.Go.ChangeSpec) : _root_.Go.OpenSpec := { _root_.Go.OpenSpec.ofChange s with cond := some uptoSmall }

/-- 'scarablaw07.StateStarts', WHERE WHAT IT READS IS OF BULK AT MOST 1048576: true; the input reads as it did. -/
def stateStartsUptoRow : OpenClaim := { program := "ytjcmhaaohdmjpaadoor", sum := "573c2b1537903e4585c9a90d68612f331ac7eb3aee9b8fea48720777fb226f21", func := "scarab/scarablaw07.StateStarts", spec := "stateStarts", named := ["scarab/prog.forms"], apart := false, laid := [("scarab/prog.forms", laid_scarab_prog_forms)], narrowed := true }
def StateStartsUptoSaid : Prop := stateStartsUptoRow.holds Tryd.pinned (OpenSpec.upto stateStartsSpec)

/-- 'scarablaw07.StateSettles', WHERE WHAT IT READS IS OF BULK AT MOST 1048576: true; the input reads as it did. -/
def stateSettlesUptoRow : OpenClaim := { program := "ytjcmhaaohdmjpaadoor", sum := "573c2b1537903e4585c9a90d68612f331ac7eb3aee9b8fea48720777fb226f21", func := "scarab/scarablaw07.StateSettles", spec := "stateSettles", named := ["scarab/prog.forms"], apart := false, laid := [("scarab/prog.forms", laid_scarab_prog_forms)], narrowed := true }
def StateSettlesUptoSaid : Prop := stateSettlesUptoRow.holds Tryd.pinned (OpenSpec.upto stateSettlesSpec)

/-- 'scarablaw07.StateValids', WHERE WHAT IT READS IS OF BULK AT MOST 1048576: true; the input reads as it did. -/
def stateValidsUptoRow : OpenClaim := { program := "ytjcmhaaohdmjpaadoor", sum := "573c2b1537903e4585c9a90d68612f331ac7eb3aee9b8fea48720777fb226f21", func := "scarab/scarablaw07.StateValids", spec := "stateValids", named := ["scarab/prog.forms"], apart := false, laid := [("scarab/prog.forms", laid_scarab_prog_forms)], narrowed := true }
def StateValidsUptoSaid : Prop := stateValidsUptoRow.holds Tryd.pinned (OpenSpec.upto stateValidsSpec)

/-- 'scarablaw07.StateKeeps', WHERE WHAT IT READS IS OF BULK AT MOST 1048576: true; the input reads as it did. -/
def stateKeepsUptoRow : OpenClaim := { program := "ytjcmhaaohdmjpaadoor", sum := "573c2b1537903e4585c9a90d68612f331ac7eb3aee9b8fea48720777fb226f21", func := "scarab/scarablaw07.StateKeeps", spec := "stateKeeps", named := ["scarab/prog.forms"], apart := false, laid := [("scarab/prog.forms", laid_scarab_prog_forms)], narrowed := true }
def StateKeepsUptoSaid : Prop := stateKeepsUptoRow.holds Tryd.pinned (OpenSpec.upto stateKeepsSpec)

/-- 'scarablaw07.StateSums', WHERE WHAT IT READS IS OF BULK AT MOST 1048576: true; the input reads as it did. -/
def stateSumsUptoRow : OpenClaim := { program := "ytjcmhaaohdmjpaadoor", sum := "573c2b1537903e4585c9a90d68612f331ac7eb3aee9b8fea48720777fb226f21", func := "scarab/scarablaw07.StateSums", spec := "stateSums", named := ["scarab/prog.forms"], apart := false, laid := [("scarab/prog.forms", laid_scarab_prog_forms)], narrowed := true }
def StateSumsUptoSaid : Prop := stateSumsUptoRow.holds Tryd.pinned (OpenSpec.upto stateSumsSpec)

/-- 'scarablaw07.StateApart', WHERE WHAT IT READS IS OF BULK AT MOST 1048576: true; the input reads as it did. -/
def stateApartUptoRow : OpenClaim := { program := "ytjcmhaaohdmjpaadoor", sum := "573c2b1537903e4585c9a90d68612f331ac7eb3aee9b8fea48720777fb226f21", func := "scarab/scarablaw07.StateApart", spec := "stateApart", named := ["scarab/prog.forms"], apart := false, laid := [("scarab/prog.forms", laid_scarab_prog_forms)], narrowed := true }
def StateApartUptoSaid : Prop := stateApartUptoRow.holds Tryd.pinned (OpenSpec.upto stateApartSpec)

end Rows
end Go.Proofs.YtjcmhaaohdmjpaaDoor
