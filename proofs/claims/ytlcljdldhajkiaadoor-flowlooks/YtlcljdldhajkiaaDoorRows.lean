/-
  NARROWER THAN 'FOR EVERY INPUT', by the rows' own cells (each row's printed sentence says how): FlowTouches: laid · FlowLooks: laid · FlowHolds: laid.
  DERIVED. THE GIVEN ROWS OF THIS SEAT. 3 by the template 'for every input the law returns true; each argument reads behind the call as it read before'; 0 by the template 'total and deterministic' (their statements: YtlcljdldhajkiaaDoorTotals.lean).
  GIVEN WITH THE SEED: the statements are not yours to turn. If you find one false, say at which input.
  Laid BY PROGRAM, IN A SANDBOX (cutbox-rows.mjs): the forced cells as the released guide's own fill.sh prints them over the translation 5dbe4ddc1e809667… (all of the seat's roots in one cut). By AI agents, Wed Nov 11 2026. No macro, syntax, notation, axiom, sorry.
-/
import Derived.Test.YtlcljdldhajkiaaDoorChecked
import GoSem.Claim
import GoSem.ClaimJoined
import GoSem.ClaimMapViews
import Derived.JoinedTies
import Derived.KernelRfl
namespace Go.Proofs.YtlcljdldhajkiaaDoor
/- THE CELL 'sum', in the pinned program and in every row, IS THE sha256 OF THE DUMP (.gsa) THAT YtlcljdldhajkiaaDoorProg.lean LOADS. Nothing in Lean hashes anything: it is a label: what it is worth is what the hold of that sum in a sandbox is worth. -/
noncomputable def Tryd.pinned : Pinned := { name := "ytlcljdldhajkiaadoor", sum := "5dbe4ddc1e80966738f8fd559d26fd1bbbab0dd9a86f80e00d92819043126495", checked := Tryd.checked }
namespace Rows
def none {H : Type} : Left H := { results := [], args := [] }

/- WHAT THE LISTED PACKAGE-LEVEL VARIABLES READ AS WHEN THE CALL BEGINS. Each datum BY PROGRAM (the guide's laid-datum.mjs) off the statement by which the dump's own 'gosem.cut.vars' lays the variable. In a bare row this is a premise. The card (YtlcljdldhajkiaaDoorCards.lean) ties it to the program's text. -/
def laid_scarab_prog_forms {H : Type} : DataW H := .agg [.lit (.string []), .lit (.string []), .lit (.string []), .lit (.string []), .lit (.string []), .lit (.string []), .lit (.string []), .lit (.string []), .lit (.string []), .lit (.string []), .lit (.string []), .lit (.string []), .lit (.string []), .lit (.string []), .lit (.string []), .lit (.string []), .lit (.string []), .lit (.string []), .lit (.string []), .lit (.string []), .lit (.string []), .lit (.string []), .lit (.string []), .lit (.string []), .lit (.string []), .lit (.string []), .lit (.string []), .lit (.string []), .lit (.string []), .lit (.string []), .lit (.string []), .lit (.string []), .lit (.string []), .lit (.string []), .lit (.string []), .lit (.string []), .lit (.string []), .lit (.string []), .lit (.string []), .lit (.string []), .lit (.string [114, 45, 45, 110]), .lit (.string [114, 114, 45, 45]), .lit (.string [116, 45, 45, 45]), .lit (.string [114, 116, 45, 45]), .lit (.string [114, 45, 45, 110]), .lit (.string [45, 45, 45, 45]), .lit (.string []), .lit (.string []), .lit (.string []), .lit (.string []), .lit (.string [114, 118, 45, 45]), .lit (.string [118, 114, 45, 45]), .lit (.string [111, 97, 114, 45]), .lit (.string [114, 97, 114, 119]), .lit (.string [97, 114, 45, 45]), .lit (.string [108, 45, 45, 45]), .lit (.string [108, 45, 45, 45]), .lit (.string [114, 108, 45, 45]), .lit (.string [99, 114, 45, 45]), .lit (.string [111, 99, 111, 45]), .lit (.string [99, 45, 45, 45]), .lit (.string [115, 45, 45, 45]), .lit (.string [111, 102, 112, 45]), .lit (.string [114, 45, 45, 45]), .lit (.string [45, 45, 45, 45]), .lit (.string [114, 45, 45, 110])]

/-- 'scarablaw06.FlowTouches': WHATEVER THE INPUT: true; the input reads as it did. -/
def flowTouchesSpec : ChangeSpec := { name := "flowTouches", fn := fun _ => fun
  | [d1, d2, d3] => { results := [.lit (.bool true)], args := [d1, d2, d3] }
  | _ => none }
def flowTouchesRow : OpenClaim := { program := "ytlcljdldhajkiaadoor", sum := "5dbe4ddc1e80966738f8fd559d26fd1bbbab0dd9a86f80e00d92819043126495", func := "scarab/scarablaw06.FlowTouches", spec := "flowTouches", unfollowed := true, recurses := true, named := ["scarab/prog.forms"], apart := false, laid := [("scarab/prog.forms", laid_scarab_prog_forms)] }
def FlowTouchesSaid : Prop := flowTouchesRow.holds Tryd.pinned (OpenSpec.ofChange flowTouchesSpec)

/-- ITS FALSE NEIGHBOUR: 'it returns false'. Refute it at one input. -/
def flowTouchesWrong : ChangeSpec := { name := "flowTouches", fn := fun _ => fun
  | [d1, d2, d3] => { results := [.lit (.bool false)], args := [d1, d2, d3] }
  | _ => none }
def FlowTouchesWrongFalsely : Prop := flowTouchesRow.holds Tryd.pinned (OpenSpec.ofChange flowTouchesWrong)

/-- 'scarablaw06.FlowLooks': WHATEVER THE INPUT: true; the input reads as it did. -/
def flowLooksSpec : ChangeSpec := { name := "flowLooks", fn := fun _ => fun
  | [d1, d2] => { results := [.lit (.bool true)], args := [d1, d2] }
  | _ => none }
def flowLooksRow : OpenClaim := { program := "ytlcljdldhajkiaadoor", sum := "5dbe4ddc1e80966738f8fd559d26fd1bbbab0dd9a86f80e00d92819043126495", func := "scarab/scarablaw06.FlowLooks", spec := "flowLooks", unfollowed := true, recurses := true, named := ["scarab/prog.forms"], apart := false, laid := [("scarab/prog.forms", laid_scarab_prog_forms)] }
def FlowLooksSaid : Prop := flowLooksRow.holds Tryd.pinned (OpenSpec.ofChange flowLooksSpec)

/-- ITS FALSE NEIGHBOUR: 'it returns false'. Refute it at one input. -/
def flowLooksWrong : ChangeSpec := { name := "flowLooks", fn := fun _ => fun
  | [d1, d2] => { results := [.lit (.bool false)], args := [d1, d2] }
  | _ => none }
def FlowLooksWrongFalsely : Prop := flowLooksRow.holds Tryd.pinned (OpenSpec.ofChange flowLooksWrong)

/-- 'scarablaw06.FlowHolds': WHATEVER THE INPUT: true; the input reads as it did. -/
def flowHoldsSpec : ChangeSpec := { name := "flowHolds", fn := fun _ => fun
  | [d1, d2, d3] => { results := [.lit (.bool true)], args := [d1, d2, d3] }
  | _ => none }
def flowHoldsRow : OpenClaim := { program := "ytlcljdldhajkiaadoor", sum := "5dbe4ddc1e80966738f8fd559d26fd1bbbab0dd9a86f80e00d92819043126495", func := "scarab/scarablaw06.FlowHolds", spec := "flowHolds", unfollowed := true, recurses := true, named := ["scarab/prog.forms"], apart := false, laid := [("scarab/prog.forms", laid_scarab_prog_forms)] }
def FlowHoldsSaid : Prop := flowHoldsRow.holds Tryd.pinned (OpenSpec.ofChange flowHoldsSpec)

/-- ITS FALSE NEIGHBOUR: 'it returns false'. Refute it at one input. -/
def flowHoldsWrong : ChangeSpec := { name := "flowHolds", fn := fun _ => fun
  | [d1, d2, d3] => { results := [.lit (.bool false)], args := [d1, d2, d3] }
  | _ => none }
def FlowHoldsWrongFalsely : Prop := flowHoldsRow.holds Tryd.pinned (OpenSpec.ofChange flowHoldsWrong)

/- THE SECOND FORM. 'bulk': how many values and letters a reading holds, each counted each time it is reached (what is shared counts as often as it is met; a slice's spare places count too). A statement '..UptoSaid' is the law's where the arguments, and the package variables that the reading takes, are together of bulk at most 1048576: NARROWER than '..Said'. Prove '..Said' where nothing that the law and all that it calls make is longer than what came in: it says more and counts as full. Else prove '..UptoSaid'. A law counts once. -/
mutual
def uptoBulk {H : Type} : DataW H → Nat
  | .lit (.string bytes) => bytes.length + 1
  | .lit _ => 1
  | .nil => 1
  | .ptr d => uptoBulk d + 1
  | .slice elems spare => uptoBulkAll elems + uptoBulkAll spare + 1
  | .agg parts => uptoBulkAll parts + 1
  | .iface _ d => uptoBulk d + 1
  | .map entries => uptoBulkEntries entries + 1
  | .held _ => 1
def uptoBulkAll {H : Type} : List (DataW H) → Nat
  | [] => 0
  | d :: r => uptoBulk d + uptoBulkAll r
def uptoBulkEntries {H : Type} : List (Lit × DataW H) → Nat
  | [] => 0
  | x :: r => uptoBulkEntry x + uptoBulkEntries r
def uptoBulkEntry {H : Type} : Lit × DataW H → Nat
  | (.string bytes, d) => bytes.length + uptoBulk d + 1
  | (_, d) => uptoBulk d + 1
 end
def uptoSmall : (H : Type) → List (DataW H) → Bool := fun _ ds => decide (uptoBulkAll ds ≤ 1048576)
def OpenSpec.upto (s : _root_.Go.ChangeSpec) : _root_.Go.OpenSpec := { _root_.Go.OpenSpec.ofChange s with cond := some uptoSmall }

/-- 'scarablaw06.FlowTouches', WHERE WHAT IT READS IS OF BULK AT MOST 1048576: true; the input reads as it did. -/
def flowTouchesUptoRow : OpenClaim := { program := "ytlcljdldhajkiaadoor", sum := "5dbe4ddc1e80966738f8fd559d26fd1bbbab0dd9a86f80e00d92819043126495", func := "scarab/scarablaw06.FlowTouches", spec := "flowTouches", unfollowed := true, recurses := true, named := ["scarab/prog.forms"], apart := false, laid := [("scarab/prog.forms", laid_scarab_prog_forms)], narrowed := true }
def FlowTouchesUptoSaid : Prop := flowTouchesUptoRow.holds Tryd.pinned (OpenSpec.upto flowTouchesSpec)

/-- 'scarablaw06.FlowLooks', WHERE WHAT IT READS IS OF BULK AT MOST 1048576: true; the input reads as it did. -/
def flowLooksUptoRow : OpenClaim := { program := "ytlcljdldhajkiaadoor", sum := "5dbe4ddc1e80966738f8fd559d26fd1bbbab0dd9a86f80e00d92819043126495", func := "scarab/scarablaw06.FlowLooks", spec := "flowLooks", unfollowed := true, recurses := true, named := ["scarab/prog.forms"], apart := false, laid := [("scarab/prog.forms", laid_scarab_prog_forms)], narrowed := true }
def FlowLooksUptoSaid : Prop := flowLooksUptoRow.holds Tryd.pinned (OpenSpec.upto flowLooksSpec)

/-- 'scarablaw06.FlowHolds', WHERE WHAT IT READS IS OF BULK AT MOST 1048576: true; the input reads as it did. -/
def flowHoldsUptoRow : OpenClaim := { program := "ytlcljdldhajkiaadoor", sum := "5dbe4ddc1e80966738f8fd559d26fd1bbbab0dd9a86f80e00d92819043126495", func := "scarab/scarablaw06.FlowHolds", spec := "flowHolds", unfollowed := true, recurses := true, named := ["scarab/prog.forms"], apart := false, laid := [("scarab/prog.forms", laid_scarab_prog_forms)], narrowed := true }
def FlowHoldsUptoSaid : Prop := flowHoldsUptoRow.holds Tryd.pinned (OpenSpec.upto flowHoldsSpec)

end Rows
end Go.Proofs.YtlcljdldhajkiaaDoor
