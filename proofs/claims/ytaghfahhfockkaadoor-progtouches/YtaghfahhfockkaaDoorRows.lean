/-
  NARROWER THAN 'FOR EVERY INPUT', by the rows' own cells (each row's printed sentence says how): ProgRegs: laid · ProgTouches: laid · CodeBack: laid.
  DERIVED. THE GIVEN ROWS OF THIS SEAT. 3 by the template 'for every input the law returns true; each argument reads behind the call as it read before'; 0 by the template 'total and deterministic' (their statements: YtaghfahhfockkaaDoorTotals.lean).
  GIVEN WITH THE SEED: the statements are not yours to turn. If you find one false, say at which input.
  Laid BY PROGRAM, IN A SANDBOX (cutbox-rows.mjs): the forced cells as the released guide's own fill.sh prints them over the translation 440af2700f8bd026… (all of the seat's roots in one cut). By AI agents, Wed Nov 11 2026. No macro, syntax, notation, axiom, sorry.
-/
import Derived.Test.YtaghfahhfockkaaDoorChecked
import GoSem.Claim
import GoSem.ClaimJoined
import GoSem.ClaimMapViews
import Derived.JoinedTies
import Derived.KernelRfl
namespace Go.Proofs.YtaghfahhfockkaaDoor
/- THE CELL 'sum', in the pinned program and in every row, IS THE sha256 OF THE DUMP (.gsa) THAT YtaghfahhfockkaaDoorProg.lean LOADS. Nothing in Lean hashes anything: it is a label: what it is worth is what the hold of that sum in a sandbox is worth. -/
noncomputable def Tryd.pinned : Pinned := { name := "ytaghfahhfockkaadoor", sum := "440af2700f8bd026b7ae00d474cd81f9ec4575f740f4e5ed83f52dd3f12e3148", checked := Tryd.checked }
namespace Rows
def none {H : Type} : Left H := { results := [], args := [] }

/- WHAT THE LISTED PACKAGE-LEVEL VARIABLES READ AS WHEN THE CALL BEGINS. Each datum BY PROGRAM (the guide's laid-datum.mjs) off the statement by which the dump's own 'gosem.cut.vars' lays the variable. In a bare row this is a premise. The card (YtaghfahhfockkaaDoorCards.lean) ties it to the program's text. -/
def laid_scarab_prog_forms {H : Type} : DataW H := .agg [.lit (.string []), .lit (.string []), .lit (.string []), .lit (.string []), .lit (.string []), .lit (.string []), .lit (.string []), .lit (.string []), .lit (.string []), .lit (.string []), .lit (.string []), .lit (.string []), .lit (.string []), .lit (.string []), .lit (.string []), .lit (.string []), .lit (.string []), .lit (.string []), .lit (.string []), .lit (.string []), .lit (.string []), .lit (.string []), .lit (.string []), .lit (.string []), .lit (.string []), .lit (.string []), .lit (.string []), .lit (.string []), .lit (.string []), .lit (.string []), .lit (.string []), .lit (.string []), .lit (.string []), .lit (.string []), .lit (.string []), .lit (.string []), .lit (.string []), .lit (.string []), .lit (.string []), .lit (.string []), .lit (.string [114, 45, 45, 110]), .lit (.string [114, 114, 45, 45]), .lit (.string [116, 45, 45, 45]), .lit (.string [114, 116, 45, 45]), .lit (.string [114, 45, 45, 110]), .lit (.string [45, 45, 45, 45]), .lit (.string []), .lit (.string []), .lit (.string []), .lit (.string []), .lit (.string [114, 118, 45, 45]), .lit (.string [118, 114, 45, 45]), .lit (.string [111, 97, 114, 45]), .lit (.string [114, 97, 114, 119]), .lit (.string [97, 114, 45, 45]), .lit (.string [108, 45, 45, 45]), .lit (.string [108, 45, 45, 45]), .lit (.string [114, 108, 45, 45]), .lit (.string [99, 114, 45, 45]), .lit (.string [111, 99, 111, 45]), .lit (.string [99, 45, 45, 45]), .lit (.string [115, 45, 45, 45]), .lit (.string [111, 102, 112, 45]), .lit (.string [114, 45, 45, 45]), .lit (.string [45, 45, 45, 45]), .lit (.string [114, 45, 45, 110])]

/-- 'scarablaw03.ProgRegs': WHATEVER THE INPUT: true; the input reads as it did. -/
def progRegsSpec : ChangeSpec := { name := "progRegs", fn := fun _ => fun
  | [d1, d2, d3] => { results := [.lit (.bool true)], args := [d1, d2, d3] }
  | _ => none }
def progRegsRow : OpenClaim := { program := "ytaghfahhfockkaadoor", sum := "440af2700f8bd026b7ae00d474cd81f9ec4575f740f4e5ed83f52dd3f12e3148", func := "scarab/scarablaw03.ProgRegs", spec := "progRegs", named := ["scarab/prog.forms"], apart := false, laid := [("scarab/prog.forms", laid_scarab_prog_forms)] }
def ProgRegsSaid : Prop := progRegsRow.holds Tryd.pinned (OpenSpec.ofChange progRegsSpec)

/-- ITS FALSE NEIGHBOUR: 'it returns false'. Refute it at one input. -/
def progRegsWrong : ChangeSpec := { name := "progRegs", fn := fun _ => fun
  | [d1, d2, d3] => { results := [.lit (.bool false)], args := [d1, d2, d3] }
  | _ => none }
def ProgRegsWrongFalsely : Prop := progRegsRow.holds Tryd.pinned (OpenSpec.ofChange progRegsWrong)

/-- 'scarablaw03.ProgTouches': WHATEVER THE INPUT: true; the input reads as it did. -/
def progTouchesSpec : ChangeSpec := { name := "progTouches", fn := fun _ => fun
  | [d1, d2] => { results := [.lit (.bool true)], args := [d1, d2] }
  | _ => none }
def progTouchesRow : OpenClaim := { program := "ytaghfahhfockkaadoor", sum := "440af2700f8bd026b7ae00d474cd81f9ec4575f740f4e5ed83f52dd3f12e3148", func := "scarab/scarablaw03.ProgTouches", spec := "progTouches", named := ["scarab/prog.forms"], apart := false, laid := [("scarab/prog.forms", laid_scarab_prog_forms)] }
def ProgTouchesSaid : Prop := progTouchesRow.holds Tryd.pinned (OpenSpec.ofChange progTouchesSpec)

/-- ITS FALSE NEIGHBOUR: 'it returns false'. Refute it at one input. -/
def progTouchesWrong : ChangeSpec := { name := "progTouches", fn := fun _ => fun
  | [d1, d2] => { results := [.lit (.bool false)], args := [d1, d2] }
  | _ => none }
def ProgTouchesWrongFalsely : Prop := progTouchesRow.holds Tryd.pinned (OpenSpec.ofChange progTouchesWrong)

/-- 'scarablaw04.CodeBack': WHATEVER THE INPUT: true; the input reads as it did. -/
def codeBackSpec : ChangeSpec := { name := "codeBack", fn := fun _ => fun
  | [d] => { results := [.lit (.bool true)], args := [d] }
  | _ => none }
def codeBackRow : OpenClaim := { program := "ytaghfahhfockkaadoor", sum := "440af2700f8bd026b7ae00d474cd81f9ec4575f740f4e5ed83f52dd3f12e3148", func := "scarab/scarablaw04.CodeBack", spec := "codeBack", unfollowed := true, recurses := true, named := ["scarab/prog.forms"], apart := false, laid := [("scarab/prog.forms", laid_scarab_prog_forms)] }
def CodeBackSaid : Prop := codeBackRow.holds Tryd.pinned (OpenSpec.ofChange codeBackSpec)

/-- ITS FALSE NEIGHBOUR: 'it returns false'. Refute it at one input. -/
def codeBackWrong : ChangeSpec := { name := "codeBack", fn := fun _ => fun
  | [d] => { results := [.lit (.bool false)], args := [d] }
  | _ => none }
def CodeBackWrongFalsely : Prop := codeBackRow.holds Tryd.pinned (OpenSpec.ofChange codeBackWrong)

/- THE SECOND FORM. 'bulk': how many values and letters a reading holds, each counted each time it is reached (what is shared counts as often as it is met; a slice's spare places count too). A statement '..UptoSaid' is the law's where the arguments, and the package variables that the reading takes, are together of bulk at most 1048576: NARROWER than '..Said'. Prove '..Said' where nothing that the law and all that it calls make is longer than what came in: it says more and counts as full. Else prove '..UptoSaid'. A law counts once. -/
mutual
def uptoBulk {H : Type} : DataW H → Nat
  | .lit (.string bytes) => bytes.length + 1
  | .lit _ => 1
  | .nil => 1
  | .ptr d => uptoBulk d + 1
  | .slice elems spare => uptoBulkAll elems + uptoBulkAll spare + 1
  | .agg parts => uptoBulkAll parts + 1
  | .iface _ d => uptoBulk d + 1
  | .map entries => uptoBulkEntries entries + 1
  | .held _ => 1
def uptoBulkAll {H : Type} : List (DataW H) → Nat
  | [] => 0
  | d :: r => uptoBulk d + uptoBulkAll r
def uptoBulkEntries {H : Type} : List (Lit × DataW H) → Nat
  | [] => 0
  | x :: r => uptoBulkEntry x + uptoBulkEntries r
def uptoBulkEntry {H : Type} : Lit × DataW H → Nat
  | (.string bytes, d) => bytes.length + uptoBulk d + 1
  | (_, d) => uptoBulk d + 1
 end
def uptoSmall : (H : Type) → List (DataW H) → Bool := fun _ ds => decide (uptoBulkAll ds ≤ 1048576)
def OpenSpec.upto (s : _root_.Go.ChangeSpec) : _root_.Go.OpenSpec := { _root_.Go.OpenSpec.ofChange s with cond := some uptoSmall }

/-- 'scarablaw03.ProgRegs', WHERE WHAT IT READS IS OF BULK AT MOST 1048576: true; the input reads as it did. -/
def progRegsUptoRow : OpenClaim := { program := "ytaghfahhfockkaadoor", sum := "440af2700f8bd026b7ae00d474cd81f9ec4575f740f4e5ed83f52dd3f12e3148", func := "scarab/scarablaw03.ProgRegs", spec := "progRegs", named := ["scarab/prog.forms"], apart := false, laid := [("scarab/prog.forms", laid_scarab_prog_forms)], narrowed := true }
def ProgRegsUptoSaid : Prop := progRegsUptoRow.holds Tryd.pinned (OpenSpec.upto progRegsSpec)

/-- 'scarablaw03.ProgTouches', WHERE WHAT IT READS IS OF BULK AT MOST 1048576: true; the input reads as it did. -/
def progTouchesUptoRow : OpenClaim := { program := "ytaghfahhfockkaadoor", sum := "440af2700f8bd026b7ae00d474cd81f9ec4575f740f4e5ed83f52dd3f12e3148", func := "scarab/scarablaw03.ProgTouches", spec := "progTouches", named := ["scarab/prog.forms"], apart := false, laid := [("scarab/prog.forms", laid_scarab_prog_forms)], narrowed := true }
def ProgTouchesUptoSaid : Prop := progTouchesUptoRow.holds Tryd.pinned (OpenSpec.upto progTouchesSpec)

/-- 'scarablaw04.CodeBack', WHERE WHAT IT READS IS OF BULK AT MOST 1048576: true; the input reads as it did. -/
def codeBackUptoRow : OpenClaim := { program := "ytaghfahhfockkaadoor", sum := "440af2700f8bd026b7ae00d474cd81f9ec4575f740f4e5ed83f52dd3f12e3148", func := "scarab/scarablaw04.CodeBack", spec := "codeBack", unfollowed := true, recurses := true, named := ["scarab/prog.forms"], apart := false, laid := [("scarab/prog.forms", laid_scarab_prog_forms)], narrowed := true }
def CodeBackUptoSaid : Prop := codeBackUptoRow.holds Tryd.pinned (OpenSpec.upto codeBackSpec)

end Rows
end Go.Proofs.YtaghfahhfockkaaDoor
