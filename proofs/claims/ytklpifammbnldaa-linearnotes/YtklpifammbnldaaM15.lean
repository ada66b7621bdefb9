/- Clocks as plain data, and where they lie. -/
import Derived.Test.YtklpifammbnldaaM2
import Derived.Test.YtklpifammbnldaaM4
import Derived.Laws.StructEq
import Derived.ChangeKeysEq
import Derived.Lib.MinMax
import Derived.Outline
import Derived.Laws.Tables
namespace Go.Proofs.Ytklpifammbnldaa.pg
open Go.ChangeShapes Go.WideShapes Go.ChangeAt Go.RowKit
set_option linter.unusedVariables false
set_option linter.unusedSimpArgs false
set_option maxRecDepth 100000
/-- A clock. -/
structure Ck where
  c0 : Int
  c1 : Int
  c2 : Int
  c3 : Int
  c4 : Int
  c5 : Int
def Ck.cells (x : Ck) : List Value := [.int .i64 x.c0, .int .i64 x.c1, .int .i64 x.c2, .int .i64 x.c3, .int .i64 x.c4, .int .i64 x.c5]
abbrev Ck.val (x : Ck) : Value := .agg #[.int .i64 x.c0, .int .i64 x.c1, .int .i64 x.c2, .int .i64 x.c3, .int .i64 x.c4, .int .i64 x.c5]
def Ck.list (x : Ck) : List Int := [x.c0, x.c1, x.c2, x.c3, x.c4, x.c5]
def Ck.wf (x : Ck) : Prop := I64 x.c0 ∧ I64 x.c1 ∧ I64 x.c2 ∧ I64 x.c3 ∧ I64 x.c4 ∧ I64 x.c5
def BoxK (w : World) (B : Nat) (x : Ck) : Prop := w.cell? ⟨B, 0, none⟩ = some (.int .i64 x.c0) ∧ w.cell? ⟨B, 1, none⟩ = some (.int .i64 x.c1) ∧ w.cell? ⟨B, 2, none⟩ = some (.int .i64 x.c2) ∧ w.cell? ⟨B, 3, none⟩ = some (.int .i64 x.c3) ∧ w.cell? ⟨B, 4, none⟩ = some (.int .i64 x.c4) ∧ w.cell? ⟨B, 5, none⟩ = some (.int .i64 x.c5)
theorem BoxK.later {w w' : World} {B : Nat} {x : Ck} (h : BoxK w B x) (hb : Below w.heap.size w w') : BoxK w' B x := ⟨cell_later hb h.1, cell_later hb h.2.1, cell_later hb h.2.2.1, cell_later hb h.2.2.2.1, cell_later hb h.2.2.2.2.1, cell_later hb h.2.2.2.2.2⟩
/-- A clock is right. -/
def okC (n : Int) : Prop := 0 ≤ n ∧ n ≤ 1073741824
def Ck.ok (x : Ck) : Prop := ∀ n ∈ x.list, okC n
theorem Ck.ok_iff (x : Ck) : x.ok ↔ okC x.c0 ∧ okC x.c1 ∧ okC x.c2 ∧ okC x.c3 ∧ okC x.c4 ∧ okC x.c5 := by
  unfold Ck.ok Ck.list
  simp
theorem Ck.list_len (x : Ck) : x.list.length = 6 := rfl
section
variable {H : Type} {enc : TypeId × Value → H} {w : World} {base : Nat} {spare : Nat → Bool} {held : Bool}
theorem len6 {α : Type} {l : List α} (h : l.length = 6) : ∃ a b c d e f, l = [a, b, c, d, e, f] := by
  match l, h with
  | [a, b, c, d, e, f], _ => exact ⟨a, b, c, d, e, f, rfl⟩
end
def eqK (x y : Ck) : Bool := x.c0 == y.c0 && x.c1 == y.c1 && x.c2 == y.c2 && x.c3 == y.c3 && x.c4 == y.c4 && x.c5 == y.c5
theorem eqK_iff (x y : Ck) : eqK x y = true ↔ x = y := by
  cases x; cases y; simp [eqK, Bool.and_eq_true, beq_iff_eq, and_assoc]
end Go.Proofs.Ytklpifammbnldaa.pg
/- Clocks held against each other; whether they are right. -/
namespace Go.Proofs.Ytklpifammbnldaa.pg
open Go.ChangeShapes Go.WideShapes Go.ChangeAt Go.RowKit
set_option linter.unusedVariables false
set_option linter.unusedSimpArgs false
set_option maxRecDepth 100000
attribute [local go_sem ↓] Go.wp_at_zero Go.wp_at_succ
theorem infoI_some : ∃ i, Try.prog.info? 3 = some i := by
  have h : (Try.prog.info? 3).isSome = true := by kernel_rfl
  exact Option.isSome_iff_exists.mp h
end Go.Proofs.Ytklpifammbnldaa.pg
/- Join and Meet of clocks. -/
namespace Go.Proofs.Ytklpifammbnldaa.pg
open Go.ChangeShapes Go.WideShapes Go.ChangeAt Go.RowKit
set_option linter.unusedVariables false
set_option linter.unusedSimpArgs false
set_option maxRecDepth 100000
attribute [local go_sem ↓] Go.wp_at_zero Go.wp_at_succ
abbrev Ck.join (x y : Ck) : Ck := ⟨max x.c0 y.c0, max x.c1 y.c1, max x.c2 y.c2, max x.c3 y.c3, max x.c4 y.c4, max x.c5 y.c5⟩
abbrev Ck.meet (x y : Ck) : Ck := ⟨min x.c0 y.c0, min x.c1 y.c1, min x.c2 y.c2, min x.c3 y.c3, min x.c4 y.c4, min x.c5 y.c5⟩
abbrev zeroK : Ck := ⟨0, 0, 0, 0, 0, 0⟩
theorem below_setRow {n B : Nat} {a w : World} (h : Below n a w) (hB : n ≤ B) (cs : Array Value) : Below n a (w.setRow B cs) :=
  ⟨h.os, h.tape, h.output, by rw [setRow_size]; exact h.size, fun k hk => (setRow_other w B k cs (by omega)).trans (h.block k hk)⟩
theorem one6 (x : Ck) : x.cells.toArray.all (·.oneCell') = true := by simp [Ck.cells, Value.oneCell']
end Go.Proofs.Ytklpifammbnldaa.pg
