/- Accesses as plain data, where lists of them lie, and when two lists clash. -/
import Derived.Test.YtklpifammbnldaaM2
import Derived.Test.YtklpifammbnldaaM4
import Derived.Laws.StructEq
import Derived.Lib.MinMax
namespace Go.Proofs.Ytklpifammbnldaa.pg
open Go.ChangeShapes Go.WideShapes Go.ChangeAt Go.RowKit
set_option linter.unusedVariables false
set_option linter.unusedSimpArgs false
set_option maxRecDepth 100000
/-- An access. -/
structure Acc where
  kind : Int
  num : Int
  wr : Bool
def Acc.cells (x : Acc) : List Value := [.int .i64 x.kind, .int .i64 x.num, .bool x.wr]
abbrev Acc.val (x : Acc) : Value := .agg #[.int .i64 x.kind, .int .i64 x.num, .bool x.wr]
def Acc.wf (x : Acc) : Prop := I64 x.kind ∧ I64 x.num
abbrev objA (x : Acc) : Obj := .cells #[.int .i64 x.kind, .int .i64 x.num, .bool x.wr] 89
def BoxA (w : World) (B : Nat) (x : Acc) : Prop := w.cell? ⟨B, 0, none⟩ = some (.int .i64 x.kind) ∧ w.cell? ⟨B, 1, none⟩ = some (.int .i64 x.num) ∧ w.cell? ⟨B, 2, none⟩ = some (.bool x.wr)
theorem BoxA.later {w w' : World} {B : Nat} {x : Acc} (h : BoxA w B x) (hb : Below w.heap.size w w') : BoxA w' B x := ⟨cell_later hb h.1, cell_later hb h.2.1, cell_later hb h.2.2⟩
theorem boxA_new (w : World) (x : Acc) : BoxA (w.alloc (objA x)) w.heap.size x := by
  refine ⟨?_, ?_, ?_⟩ <;> exact World.cell?_alloc_at _ _ _ _ rfl
theorem list3 {α : Type} {cs : List α} (h : cs.length = 3) {a b c : α} (h0 : cs[0]? = some a) (h1 : cs[1]? = some b) (h2 : cs[2]? = some c) : cs = [a, b, c] := by
  match cs, h with
  | [_, _, _], _ => simp_all
theorem len3a (l : List Acc) : ∀ row ∈ l.map Acc.cells, row.length = 3 := by intro r hr; obtain ⟨x, _, rfl⟩ := List.mem_map.mp hr; rfl
theorem one3a (l : List Acc) : ∀ row ∈ l.map Acc.cells, ∀ u ∈ row, u.oneCell' = true := by
  intro r hr
  obtain ⟨x, _, rfl⟩ := List.mem_map.mp hr
  intro u hu
  simp only [Acc.cells, List.mem_cons, List.not_mem_nil, or_false] at hu
  rcases hu with rfl | rfl | rfl <;> rfl
section
variable {H : Type} {enc : TypeId × Value → H} {w : World} {base : Nat} {spare : Nat → Bool} {held : Bool}
theorem acc_in {n : Nat} {cs : List Value} {y : DataW H × List MemPlace} (hl : cs.length = 3) (h : DataW.trod enc Try.prog w base spare held n 89 cs = some y) : ∃ x : Acc, cs = x.cells ∧ x.wf := by
  obtain ⟨v0, _, _, e0, t0⟩ := field_in Try.underlying89 h 0 _ rfl rfl (by kernel_rfl) (by omega)
  obtain ⟨v1, _, _, e1, t1⟩ := field_in Try.underlying89 h 1 _ rfl rfl (by kernel_rfl) (by omega)
  obtain ⟨v2, _, _, e2, t2⟩ := field_in Try.underlying89 h 2 _ rfl rfl (by kernel_rfl) (by omega)
  obtain ⟨z0, rfl, b0⟩ := int_in Try.underlying3 t0
  obtain ⟨z1, rfl, b1⟩ := int_in Try.underlying3 t1
  obtain ⟨z2, rfl⟩ := bool_in Try.underlying4 t2
  exact ⟨⟨z0, z1, z2⟩, list3 hl e0 e1 e2, b0, b1⟩
/-- A list of accesses, opened. -/
theorem accs_in {n : Nat} {a : Option Addr} {len cap : Nat} {y : DataW H × List MemPlace} (h : DataW.trod enc Try.prog w base spare held n 129 [.slice a len cap] = some y) : ∃ l : List Acc, l.length = len ∧ Rows w 3 a cap (l.map Acc.cells) ∧ ∀ x ∈ l, x.wf :=
  rows_in (k := 3) ⟨0, 0, false⟩ Acc.cells Acc.wf Try.underlying129 (by kernel_rfl) (by omega) (fun n cs y hl h => acc_in hl h) h
end
theorem acc_ix {w : World} {a : Option Addr} {cap : Nat} {l : List Acc} (h : Rows w 3 a cap (l.map Acc.cells)) (i : Nat) (x : Acc) (hi : l[i]? = some x) :
    ∃ b o, (∀ wx, (Instr.indexAt 129 (.slice a l.length cap) (.int .i64 (i : Int))).run Try.prog wx = .ok (.pointer (some ⟨b, o, none⟩)) wx) ∧ b < w.heap.size ∧ w.cell? ⟨b, o, none⟩ = some (.int .i64 x.kind) ∧ w.cell? ⟨b, o + 1, none⟩ = some (.int .i64 x.num) ∧ w.cell? ⟨b, o + 2, none⟩ = some (.bool x.wr) := by
  obtain ⟨b, o, hr, hlt, hc⟩ := h.ix 129 89 Try.underlying129 (by kernel_rfl) (fun wx => Try.sizeOf89 wx) i (row := x.cells) (by simp [hi])
  rw [List.length_map] at hr
  exact ⟨b, o, hr, hlt, hc 0 _ rfl, hc 1 _ rfl, hc 2 _ rfl⟩
theorem take_one {α : Type} (l : List α) (j : Nat) (x : α) (h : l[j]? = some x) : l.take (j + 1) = l.take j ++ [x] := by
  rw [List.take_add_one, h]; rfl
/-- Two accesses of one object, one of which writes it. -/
def meets (x y : Acc) : Bool := (x.kind == y.kind && x.num == y.num) && (x.wr || y.wr)
/-- Two lists clash. -/
def clash (a b : List Acc) : Bool := a.any fun x => b.any (meets x)
theorem clash_true {a b : List Acc} {x y : Acc} (hx : x ∈ a) (hy : y ∈ b) (h : meets x y = true) : clash a b = true := List.any_eq_true.mpr ⟨x, hx, List.any_eq_true.mpr ⟨y, hy, h⟩⟩
theorem clash_false {a b : List Acc} (h : ∀ x ∈ a, ∀ y ∈ b, meets x y = false) : clash a b = false := by
  rw [Bool.eq_false_iff]
  intro q
  obtain ⟨x, hx, q⟩ := List.any_eq_true.mp q
  obtain ⟨y, hy, q⟩ := List.any_eq_true.mp q
  rw [h x hx y hy] at q
  cases q
theorem beq_swap (a b : Int) : (a == b) = (b == a) := Bool.eq_iff_iff.mpr ⟨fun h => by rw [beq_iff_eq] at h ⊢; exact h.symm, fun h => by rw [beq_iff_eq] at h ⊢; exact h.symm⟩
theorem meets_comm (x y : Acc) : meets x y = meets y x := by
  unfold meets
  rw [Bool.or_comm x.wr y.wr, beq_swap x.kind y.kind, beq_swap x.num y.num]
theorem clash_comm (a b : List Acc) : clash a b = clash b a := by
  rw [Bool.eq_iff_iff]
  constructor
  all_goals
    intro q
    obtain ⟨x, hx, q⟩ := List.any_eq_true.mp q
    obtain ⟨y, hy, q⟩ := List.any_eq_true.mp q
    exact clash_true hy hx (by rw [meets_comm]; exact q)
def eqA (x y : Acc) : Bool := x.kind == y.kind && x.num == y.num && x.wr == y.wr
theorem eqA_iff (x y : Acc) : eqA x y = true ↔ x = y := by
  cases x; cases y; simp [eqA, Bool.and_eq_true, beq_iff_eq, and_assoc]
theorem run_eqA (x y : Acc) (w : World) : (binOp .eql 89 x.val y.val).run Try.prog w = .ok (.bool (eqA x y)) w := by
  have u0 := Try.underlying4
  have a0 := Try.isAgg4
  have z0 := Try.sizeOf4
  have u1 := Try.underlying3
  have a1 := Try.isAgg3
  have z1 := Try.sizeOf3
  have hS : Try.prog.underlying 89 = some (.struct (Try.prog.fieldsOf 89)) := by kernel_rfl
  have hp : Try.prog.stoodInHeld 89 = false := by kernel_rfl
  rw [run_eql_struct, show (10000 : Nat) = 9999 + 1 from rfl, run_equalIn_agg w 9999 89 _ _ hS hp]
  simp only [Program.fieldsOf, Try.underlying89]
  go_simp
  by_cases h0 : x.kind = y.kind <;> by_cases h1 : x.num = y.num <;> by_cases h2 : x.wr = y.wr <;> simp [eqA, h0, h1, h2]
theorem run_neA (x y : Acc) (w : World) : (binOp .neq 89 x.val y.val).run Try.prog w = .ok (.bool (!eqA x y)) w := by
  have u0 := Try.underlying4
  have a0 := Try.isAgg4
  have z0 := Try.sizeOf4
  have u1 := Try.underlying3
  have a1 := Try.isAgg3
  have z1 := Try.sizeOf3
  have hS : Try.prog.underlying 89 = some (.struct (Try.prog.fieldsOf 89)) := by kernel_rfl
  have hp : Try.prog.stoodInHeld 89 = false := by kernel_rfl
  rw [run_neq_struct, show (10000 : Nat) = 9999 + 1 from rfl, run_equalIn_agg w 9999 89 _ _ hS hp]
  simp only [Program.fieldsOf, Try.underlying89]
  go_simp
  by_cases h0 : x.kind = y.kind <;> by_cases h1 : x.num = y.num <;> by_cases h2 : x.wr = y.wr <;> simp [eqA, h0, h1, h2]
/-- An access but for whether it writes. -/
abbrev Acc.obj (x : Acc) : Acc := ⟨x.kind, x.num, false⟩
end Go.Proofs.Ytklpifammbnldaa.pg
/- Clash of package depend, of lists of which one is short; the document's own Clash. -/
namespace Go.Proofs.Ytklpifammbnldaa.pg
open Go.ChangeShapes Go.WideShapes Go.ChangeAt Go.RowKit
set_option linter.unusedVariables false
set_option linter.unusedSimpArgs false
set_option maxRecDepth 100000
attribute [local go_sem ↓] Go.wp_at_zero Go.wp_at_succ
theorem keepAA {W w' : World} {A B : Nat} {x y : Acc} (h1 : BoxA W A x) (h2 : BoxA W B y) (hb : Below W.heap.size W w') : w'.cell? ⟨A, 0, none⟩ = some (.int .i64 x.kind) ∧ w'.cell? ⟨A, 1, none⟩ = some (.int .i64 x.num) ∧ w'.cell? ⟨A, 2, none⟩ = some (.bool x.wr) ∧ w'.cell? ⟨B, 0, none⟩ = some (.int .i64 y.kind) ∧ w'.cell? ⟨B, 1, none⟩ = some (.int .i64 y.num) ∧ w'.cell? ⟨B, 2, none⟩ = some (.bool y.wr) ∧ Below W.heap.size W w' :=
  have p := h1.later hb
  have q := h2.later hb
  ⟨p.1, p.2.1, p.2.2, q.1, q.2.1, q.2.2, hb⟩
theorem keep6 {A0 A1 A2 A3 A4 A5 Q : Prop} (h : A0 ∧ A1 ∧ A2 ∧ A3 ∧ A4 ∧ A5 ∧ Q) : Q := h.2.2.2.2.2.2
theorem eqA_obj (x y : Acc) : eqA x.obj y.obj = (x.kind == y.kind && x.num == y.num) := by simp [eqA]
theorem none_more {a b : List Acc} {j : Nat} {x : Acc} (hx : a[j]? = some x) (h : ∀ x ∈ a.take j, ∀ y ∈ b, meets x y = false) (h2 : ∀ y ∈ b, meets x y = false) : ∀ x ∈ a.take (j + 1), ∀ y ∈ b, meets x y = false := by
  intro z hz
  rw [take_one a j x hx, List.mem_append, List.mem_singleton] at hz
  rcases hz with hz | rfl
  · exact h z hz
  · exact h2
theorem none_one {b : List Acc} {k : Nat} {x y : Acc} (hy : b[k]? = some y) (h : ∀ y ∈ b.take k, meets x y = false) (h2 : meets x y = false) : ∀ y ∈ b.take (k + 1), meets x y = false := by
  intro z hz
  rw [take_one b k y hy, List.mem_append, List.mem_singleton] at hz
  rcases hz with hz | rfl
  · exact h z hz
  · exact h2
end Go.Proofs.Ytklpifammbnldaa.pg
/- The document's own Clash. -/
namespace Go.Proofs.Ytklpifammbnldaa.pg
open Go.ChangeShapes Go.WideShapes Go.ChangeAt Go.RowKit
set_option linter.unusedVariables false
set_option linter.unusedSimpArgs false
set_option maxRecDepth 100000
attribute [local go_sem ↓] Go.wp_at_zero Go.wp_at_succ
theorem meets_cases (x y : Acc) : ((x.kind == y.kind) = false ∧ meets x y = false) ∨ ((x.kind == y.kind) = true ∧ (x.num == y.num) = false ∧ meets x y = false) ∨ ((x.kind == y.kind) = true ∧ (x.num == y.num) = true ∧ x.wr = true ∧ meets x y = true) ∨ ((x.kind == y.kind) = true ∧ (x.num == y.num) = true ∧ x.wr = false ∧ y.wr = true ∧ meets x y = true) ∨ ((x.kind == y.kind) = true ∧ (x.num == y.num) = true ∧ x.wr = false ∧ y.wr = false ∧ meets x y = false) := by
  cases h0 : (x.kind == y.kind) <;> cases h1 : (x.num == y.num) <;> cases h2 : x.wr <;> cases h3 : y.wr <;> simp [meets, h0, h1, h2, h3]
end Go.Proofs.Ytklpifammbnldaa.pg
