/- When two of a program's plain parts are the same. -/
import Derived.Test.YtaghfahhfockkaaBox
import Derived.Laws.StructEq
namespace Go.Proofs.Ytaghfahhfockkaa.pg
open Go.ChangeShapes Go.WideShapes Go.ChangeAt Go.RowKit
set_option linter.unusedVariables false
set_option linter.unusedSimpArgs false
abbrev Vr.val (x : Vr) : Value := .agg #[.bool x.atomic, .int .i64 x.init]
def eqV (x y : Vr) : Bool := x.atomic == y.atomic && x.init == y.init
theorem eqV_iff (x y : Vr) : eqV x y = true ↔ x = y := by
  cases x; cases y; simp [eqV, Bool.and_eq_true, beq_iff_eq, and_assoc]
theorem run_eqV (x y : Vr) (w : World) : (binOp .eql 31 x.val y.val).run Try.prog w = .ok (.bool (eqV x y)) w := by
  have u0 := Try.underlying4
  have a0 := Try.isAgg4
  have z0 := Try.sizeOf4
  have u1 := Try.underlying2
  have a1 := Try.isAgg2
  have z1 := Try.sizeOf2
  have hS : Try.prog.underlying 31 = some (.struct (Try.prog.fieldsOf 31)) := by kernel_rfl
  have hp : Try.prog.stoodInHeld 31 = false := by kernel_rfl
  rw [run_eql_struct, show (10000 : Nat) = 9999 + 1 from rfl, run_equalIn_agg w 9999 31 _ _ hS hp]
  simp only [Program.fieldsOf, Try.underlying31]
  go_simp
  by_cases h0 : x.atomic = y.atomic <;> by_cases h1 : x.init = y.init <;> simp [eqV, h0, h1]
theorem run_neV (x y : Vr) (w : World) : (binOp .neq 31 x.val y.val).run Try.prog w = .ok (.bool (!eqV x y)) w := by
  have u0 := Try.underlying4
  have a0 := Try.isAgg4
  have z0 := Try.sizeOf4
  have u1 := Try.underlying2
  have a1 := Try.isAgg2
  have z1 := Try.sizeOf2
  have hS : Try.prog.underlying 31 = some (.struct (Try.prog.fieldsOf 31)) := by kernel_rfl
  have hp : Try.prog.stoodInHeld 31 = false := by kernel_rfl
  rw [run_neq_struct, show (10000 : Nat) = 9999 + 1 from rfl, run_equalIn_agg w 9999 31 _ _ hS hp]
  simp only [Program.fieldsOf, Try.underlying31]
  go_simp
  by_cases h0 : x.atomic = y.atomic <;> by_cases h1 : x.init = y.init <;> simp [eqV, h0, h1]
def eqI (x y : Ins) : Bool := x.op == y.op && x.a == y.a && x.b == y.b && x.c == y.c && x.n == y.n
theorem eqI_iff (x y : Ins) : eqI x y = true ↔ x = y := by
  cases x; cases y; simp [eqI, Bool.and_eq_true, beq_iff_eq, and_assoc]
theorem run_eqI (x y : Ins) (w : World) : (binOp .eql 47 x.val y.val).run Try.prog w = .ok (.bool (eqI x y)) w := by
  have u0 := Try.underlying45
  have a0 := Try.isAgg45
  have z0 := Try.sizeOf45
  have u1 := Try.underlying3
  have a1 := Try.isAgg3
  have z1 := Try.sizeOf3
  have u2 := Try.underlying2
  have a2 := Try.isAgg2
  have z2 := Try.sizeOf2
  have hS : Try.prog.underlying 47 = some (.struct (Try.prog.fieldsOf 47)) := by kernel_rfl
  have hp : Try.prog.stoodInHeld 47 = false := by kernel_rfl
  rw [run_eql_struct, show (10000 : Nat) = 9999 + 1 from rfl, run_equalIn_agg w 9999 47 _ _ hS hp]
  simp only [Program.fieldsOf, Try.underlying47]
  go_simp
  by_cases h0 : x.op = y.op <;> by_cases h1 : x.a = y.a <;> by_cases h2 : x.b = y.b <;> by_cases h3 : x.c = y.c <;> by_cases h4 : x.n = y.n <;> simp [eqI, h0, h1, h2, h3, h4]
theorem run_neI (x y : Ins) (w : World) : (binOp .neq 47 x.val y.val).run Try.prog w = .ok (.bool (!eqI x y)) w := by
  have u0 := Try.underlying45
  have a0 := Try.isAgg45
  have z0 := Try.sizeOf45
  have u1 := Try.underlying3
  have a1 := Try.isAgg3
  have z1 := Try.sizeOf3
  have u2 := Try.underlying2
  have a2 := Try.isAgg2
  have z2 := Try.sizeOf2
  have hS : Try.prog.underlying 47 = some (.struct (Try.prog.fieldsOf 47)) := by kernel_rfl
  have hp : Try.prog.stoodInHeld 47 = false := by kernel_rfl
  rw [run_neq_struct, show (10000 : Nat) = 9999 + 1 from rfl, run_equalIn_agg w 9999 47 _ _ hS hp]
  simp only [Program.fieldsOf, Try.underlying47]
  go_simp
  by_cases h0 : x.op = y.op <;> by_cases h1 : x.a = y.a <;> by_cases h2 : x.b = y.b <;> by_cases h3 : x.c = y.c <;> by_cases h4 : x.n = y.n <;> simp [eqI, h0, h1, h2, h3, h4]
def eqC (x y : Cas) : Bool := x.send == y.send && x.ch == y.ch && x.reg == y.reg && x.to == y.to
theorem eqC_iff (x y : Cas) : eqC x y = true ↔ x = y := by
  cases x; cases y; simp [eqC, Bool.and_eq_true, beq_iff_eq, and_assoc]
theorem run_eqC (x y : Cas) (w : World) : (binOp .eql 51 x.val y.val).run Try.prog w = .ok (.bool (eqC x y)) w := by
  have u0 := Try.underlying4
  have a0 := Try.isAgg4
  have z0 := Try.sizeOf4
  have u1 := Try.underlying3
  have a1 := Try.isAgg3
  have z1 := Try.sizeOf3
  have hS : Try.prog.underlying 51 = some (.struct (Try.prog.fieldsOf 51)) := by kernel_rfl
  have hp : Try.prog.stoodInHeld 51 = false := by kernel_rfl
  rw [run_eql_struct, show (10000 : Nat) = 9999 + 1 from rfl, run_equalIn_agg w 9999 51 _ _ hS hp]
  simp only [Program.fieldsOf, Try.underlying51]
  go_simp
  by_cases h0 : x.send = y.send <;> by_cases h1 : x.ch = y.ch <;> by_cases h2 : x.reg = y.reg <;> by_cases h3 : x.to = y.to <;> simp [eqC, h0, h1, h2, h3]
theorem run_neC (x y : Cas) (w : World) : (binOp .neq 51 x.val y.val).run Try.prog w = .ok (.bool (!eqC x y)) w := by
  have u0 := Try.underlying4
  have a0 := Try.isAgg4
  have z0 := Try.sizeOf4
  have u1 := Try.underlying3
  have a1 := Try.isAgg3
  have z1 := Try.sizeOf3
  have hS : Try.prog.underlying 51 = some (.struct (Try.prog.fieldsOf 51)) := by kernel_rfl
  have hp : Try.prog.stoodInHeld 51 = false := by kernel_rfl
  rw [run_neq_struct, show (10000 : Nat) = 9999 + 1 from rfl, run_equalIn_agg w 9999 51 _ _ hS hp]
  simp only [Program.fieldsOf, Try.underlying51]
  go_simp
  by_cases h0 : x.send = y.send <;> by_cases h1 : x.ch = y.ch <;> by_cases h2 : x.reg = y.reg <;> by_cases h3 : x.to = y.to <;> simp [eqC, h0, h1, h2, h3]
theorem list_eq {α : Type} {l m : List α} (hl : l.length = m.length) (h : ∀ (i : Nat) x y, l[i]? = some x → m[i]? = some y → x = y) : l = m := by
  apply List.ext_getElem? 
  intro i
  by_cases hi : i < l.length
  · rw [List.getElem?_eq_getElem hi, List.getElem?_eq_getElem (by omega)]
    rw [h i _ _ (List.getElem?_eq_getElem hi) (List.getElem?_eq_getElem (by omega))]
  · rw [List.getElem?_eq_none (by omega), List.getElem?_eq_none (by omega)]
end Go.Proofs.Ytaghfahhfockkaa.pg
