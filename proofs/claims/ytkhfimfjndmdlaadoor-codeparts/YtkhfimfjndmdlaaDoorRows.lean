/-
  NARROWER THAN 'FOR EVERY INPUT', by the rows' own cells (each row's printed sentence says how): CodeBack: laid · CodeCanon: laid · CodeTells: laid · CodeParts: laid.
  DERIVED. THE GIVEN ROWS OF THIS SEAT. 4 by the template 'for every input the law returns true; each argument reads behind the call as it read before'; 0 by the template 'total and deterministic' (their statements: YtkhfimfjndmdlaaDoorTotals.lean).
  GIVEN WITH THE SEED: the statements are not yours to turn. If you find one false, say at which input.
  Laid BY PROGRAM, IN A SANDBOX (cutbox-rows.mjs): the forced cells as the released guide's own fill.sh prints them over the translation f6979bed6173ffc7… (all of the seat's roots in one cut). By AI agents, Wed Nov 11 2026. No macro, syntax, notation, axiom, sorry.
-/
import Derived.Test.YtkhfimfjndmdlaaDoorChecked
import GoSem.Claim
import GoSem.ClaimJoined
import GoSem.ClaimMapViews
import Derived.JoinedTies
import Derived.KernelRfl
namespace Go.Proofs.YtkhfimfjndmdlaaDoor
/- THE CELL 'sum', in the pinned program and in every row, IS THE sha256 OF THE DUMP (.gsa) THAT YtkhfimfjndmdlaaDoorProg.lean LOADS. Nothing in Lean hashes anything: it is a label: what it is worth is what the hold of that sum in a sandbox is worth. -/
noncomputable def Tryd.pinned : Pinned := { name := "ytkhfimfjndmdlaadoor", sum := "f6979bed6173ffc7a9bde99d014f88930f62a9d5efa63105701162cbe65b6361", checked := Tryd.checked }
namespace Rows
def none {H : Type} : Left H := { results := [], args := [] }

/- WHAT THE LISTED PACKAGE-LEVEL VARIABLES READ AS WHEN THE CALL BEGINS. Each datum BY PROGRAM (the guide's laid-datum.mjs) off the statement by which the dump's own 'gosem.cut.vars' lays the variable. In a bare row this is a premise. The card (YtkhfimfjndmdlaaDoorCards.lean) ties it to the program's text. -/
def laid_scarab_prog_forms {H : Type} : DataW H := .agg [.lit (.string []), .lit (.string []), .lit (.string []), .lit (.string []), .lit (.string []), .lit (.string []), .lit (.string []), .lit (.string []), .lit (.string []), .lit (.string []), .lit (.string []), .lit (.string []), .lit (.string []), .lit (.string []), .lit (.string []), .lit (.string []), .lit (.string []), .lit (.string []), .lit (.string []), .lit (.string []), .lit (.string []), .lit (.string []), .lit (.string []), .lit (.string []), .lit (.string []), .lit (.string []), .lit (.string []), .lit (.string []), .lit (.string []), .lit (.string []), .lit (.string []), .lit (.string []), .lit (.string []), .lit (.string []), .lit (.string []), .lit (.string []), .lit (.string []), .lit (.string []), .lit (.string []), .lit (.string []), .lit (.string [114, 45, 45, 110]), .lit (.string [114, 114, 45, 45]), .lit (.string [116, 45, 45, 45]), .lit (.string [114, 116, 45, 45]), .lit (.string [114, 45, 45, 110]), .lit (.string [45, 45, 45, 45]), .lit (.string []), .lit (.string []), .lit (.string []), .lit (.string []), .lit (.string [114, 118, 45, 45]), .lit (.string [118, 114, 45, 45]), .lit (.string [111, 97, 114, 45]), .lit (.string [114, 97, 114, 119]), .lit (.string [97, 114, 45, 45]), .lit (.string [108, 45, 45, 45]), .lit (.string [108, 45, 45, 45]), .lit (.string [114, 108, 45, 45]), .lit (.string [99, 114, 45, 45]), .lit (.string [111, 99, 111, 45]), .lit (.string [99, 45, 45, 45]), .lit (.string [115, 45, 45, 45]), .lit (.string [111, 102, 112, 45]), .lit (.string [114, 45, 45, 45]), .lit (.string [45, 45, 45, 45]), .lit (.string [114, 45, 45, 110])]

/-- 'scarablaw04.CodeBack': WHATEVER THE INPUT: true; the input reads as it did. -/
def codeBackSpec : ChangeSpec := { name := "codeBack", fn := fun _ => fun
  | [d] => { results := [.lit (.bool true)], args := [d] }
  | _ => none }
def codeBackRow : OpenClaim := { program := "ytkhfimfjndmdlaadoor", sum := "f6979bed6173ffc7a9bde99d014f88930f62a9d5efa63105701162cbe65b6361", func := "scarab/scarablaw04.CodeBack", spec := "codeBack", unfollowed := true, recurses := true, named := ["scarab/prog.forms"], apart := false, laid := [("scarab/prog.forms", laid_scarab_prog_forms)] }
def CodeBackSaid : Prop := codeBackRow.holds Tryd.pinned (OpenSpec.ofChange codeBackSpec)

/-- ITS FALSE NEIGHBOUR: 'it returns false'. Refute it at one input. -/
def codeBackWrong : ChangeSpec := { name := "codeBack", fn := fun _ => fun
  | [d] => { results := [.lit (.bool false)], args := [d] }
  | _ => none }
def CodeBackWrongFalsely : Prop := codeBackRow.holds Tryd.pinned (OpenSpec.ofChange codeBackWrong)

/-- 'scarablaw04.CodeCanon': WHATEVER THE INPUT: true; the input reads as it did. -/
def codeCanonSpec : ChangeSpec := { name := "codeCanon", fn := fun _ => fun
  | [d] => { results := [.lit (.bool true)], args := [d] }
  | _ => none }
def codeCanonRow : OpenClaim := { program := "ytkhfimfjndmdlaadoor", sum := "f6979bed6173ffc7a9bde99d014f88930f62a9d5efa63105701162cbe65b6361", func := "scarab/scarablaw04.CodeCanon", spec := "codeCanon", unfollowed := true, recurses := true, named := ["scarab/prog.forms"], apart := false, laid := [("scarab/prog.forms", laid_scarab_prog_forms)] }
def CodeCanonSaid : Prop := codeCanonRow.holds Tryd.pinned (OpenSpec.ofChange codeCanonSpec)

/-- ITS FALSE NEIGHBOUR: 'it returns false'. Refute it at one input. -/
def codeCanonWrong : ChangeSpec := { name := "codeCanon", fn := fun _ => fun
  | [d] => { results := [.lit (.bool false)], args := [d] }
  | _ => none }
def CodeCanonWrongFalsely : Prop := codeCanonRow.holds Tryd.pinned (OpenSpec.ofChange codeCanonWrong)

/-- 'scarablaw04.CodeTells': WHATEVER THE INPUT: true; the input reads as it did. -/
def codeTellsSpec : ChangeSpec := { name := "codeTells", fn := fun _ => fun
  | [d1, d2, d3] => { results := [.lit (.bool true)], args := [d1, d2, d3] }
  | _ => none }
def codeTellsRow : OpenClaim := { program := "ytkhfimfjndmdlaadoor", sum := "f6979bed6173ffc7a9bde99d014f88930f62a9d5efa63105701162cbe65b6361", func := "scarab/scarablaw04.CodeTells", spec := "codeTells", unfollowed := true, recurses := true, named := ["scarab/prog.forms"], apart := false, laid := [("scarab/prog.forms", laid_scarab_prog_forms)] }
def CodeTellsSaid : Prop := codeTellsRow.holds Tryd.pinned (OpenSpec.ofChange codeTellsSpec)

/-- ITS FALSE NEIGHBOUR: 'it returns false'. Refute it at one input. -/
def codeTellsWrong : ChangeSpec := { name := "codeTells", fn := fun _ => fun
  | [d1, d2, d3] => { results := [.lit (.bool false)], args := [d1, d2, d3] }
  | _ => none }
def CodeTellsWrongFalsely : Prop := codeTellsRow.holds Tryd.pinned (OpenSpec.ofChange codeTellsWrong)

/-- 'scarablaw04.CodeParts': WHATEVER THE INPUT: true; the input reads as it did. -/
def codePartsSpec : ChangeSpec := { name := "codeParts", fn := fun _ => fun
  | [d1, d2, d3] => { results := [.lit (.bool true)], args := [d1, d2, d3] }
  | _ => none }
def codePartsRow : OpenClaim := { program := "ytkhfimfjndmdlaadoor", sum := "f6979bed6173ffc7a9bde99d014f88930f62a9d5efa63105701162cbe65b6361", func := "scarab/scarablaw04.CodeParts", spec := "codeParts", unfollowed := true, recurses := true, named := ["scarab/prog.forms"], apart := false, laid := [("scarab/prog.forms", laid_scarab_prog_forms)] }
def CodePartsSaid : Prop := codePartsRow.holds Tryd.pinned (OpenSpec.ofChange codePartsSpec)

/-- ITS FALSE NEIGHBOUR: 'it returns false'. Refute it at one input. -/
def codePartsWrong : ChangeSpec := { name := "codeParts", fn := fun _ => fun
  | [d1, d2, d3] => { results := [.lit (.bool false)], args := [d1, d2, d3] }
  | _ => none }
def CodePartsWrongFalsely : Prop := codePartsRow.holds Tryd.pinned (OpenSpec.ofChange codePartsWrong)

/- THE SECOND FORM. 'bulk': how many values and letters a reading holds, each counted each time it is reached (what is shared counts as often as it is met; a slice's spare places count too). A statement '..UptoSaid' is the law's where the arguments, and the package variables that the reading takes, are together of bulk at most 1048576: NARROWER than '..Said'. Prove '..Said' where nothing that the law and all that it calls make is longer than what came in: it says more and counts as full. Else prove '..UptoSaid'. A law counts once. -/
mutual
def uptoBulk {H : Type} : DataW H → Nat
  | .lit (.string bytes) => bytes.length + 1
  | .lit _ => 1
  | .nil => 1
  | .ptr d => uptoBulk d + 1
  | .slice elems spare => uptoBulkAll elems + uptoBulkAll spare + 1
  | .agg parts => uptoBulkAll parts + 1
  | .iface _ d => uptoBulk d + 1
  | .map entries => uptoBulkEntries entries + 1
  | .held _ => 1
def uptoBulkAll {H : Type} : List (DataW H) → Nat
  | [] => 0
  | d :: r => uptoBulk d + uptoBulkAll r
def uptoBulkEntries {H : Type} : List (Lit × DataW H) → Nat
  | [] => 0
  | x :: r => uptoBulkEntry x + uptoBulkEntries r
def uptoBulkEntry {H : Type} : Lit × DataW H → Nat
  | (.string bytes, d) => bytes.length + uptoBulk d + 1
  | (_, d) => uptoBulk d + 1
 end
def uptoSmall : (H : Type) → List (DataW H) → Bool := fun _ ds => decide (uptoBulkAll ds ≤ 1048576)
def OpenSpec.upto (s : _root_.Go.ChangeSpec) : _root_.Go.OpenSpec := { _root_.Go.OpenSpec.ofChange s with cond := some uptoSmall }

/-- 'scarablaw04.CodeBack', WHERE WHAT IT READS IS OF BULK AT MOST 1048576: true; the input reads as it did. -/
def codeBackUptoRow : OpenClaim := { program := "ytkhfimfjndmdlaadoor", sum := "f6979bed6173ffc7a9bde99d014f88930f62a9d5efa63105701162cbe65b6361", func := "scarab/scarablaw04.CodeBack", spec := "codeBack", unfollowed := true, recurses := true, named := ["scarab/prog.forms"], apart := false, laid := [("scarab/prog.forms", laid_scarab_prog_forms)], narrowed := true }
def CodeBackUptoSaid : Prop := codeBackUptoRow.holds Tryd.pinned (OpenSpec.upto codeBackSpec)

/-- 'scarablaw04.CodeCanon', WHERE WHAT IT READS IS OF BULK AT MOST 1048576: true; the input reads as it did. -/
def codeCanonUptoRow : OpenClaim := { program := "ytkhfimfjndmdlaadoor", sum := "f6979bed6173ffc7a9bde99d014f88930f62a9d5efa63105701162cbe65b6361", func := "scarab/scarablaw04.CodeCanon", spec := "codeCanon", unfollowed := true, recurses := true, named := ["scarab/prog.forms"], apart := false, laid := [("scarab/prog.forms", laid_scarab_prog_forms)], narrowed := true }
def CodeCanonUptoSaid : Prop := codeCanonUptoRow.holds Tryd.pinned (OpenSpec.upto codeCanonSpec)

/-- 'scarablaw04.CodeTells', WHERE WHAT IT READS IS OF BULK AT MOST 1048576: true; the input reads as it did. -/
def codeTellsUptoRow : OpenClaim := { program := "ytkhfimfjndmdlaadoor", sum := "f6979bed6173ffc7a9bde99d014f88930f62a9d5efa63105701162cbe65b6361", func := "scarab/scarablaw04.CodeTells", spec := "codeTells", unfollowed := true, recurses := true, named := ["scarab/prog.forms"], apart := false, laid := [("scarab/prog.forms", laid_scarab_prog_forms)], narrowed := true }
def CodeTellsUptoSaid : Prop := codeTellsUptoRow.holds Tryd.pinned (OpenSpec.upto codeTellsSpec)

/-- 'scarablaw04.CodeParts', WHERE WHAT IT READS IS OF BULK AT MOST 1048576: true; the input reads as it did. -/
def codePartsUptoRow : OpenClaim := { program := "ytkhfimfjndmdlaadoor", sum := "f6979bed6173ffc7a9bde99d014f88930f62a9d5efa63105701162cbe65b6361", func := "scarab/scarablaw04.CodeParts", spec := "codeParts", unfollowed := true, recurses := true, named := ["scarab/prog.forms"], apart := false, laid := [("scarab/prog.forms", laid_scarab_prog_forms)], narrowed := true }
def CodePartsUptoSaid : Prop := codePartsUptoRow.holds Tryd.pinned (OpenSpec.upto codePartsSpec)

end Rows
end Go.Proofs.YtkhfimfjndmdlaaDoor
