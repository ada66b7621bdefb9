/- Accesses as plain data, where lists of them lie, and when two lists clash. -/
import Derived.Test.YtbajfgllgfmnfaaBox
import Derived.Test.YtbajfgllgfmnfaaPgSz
import Derived.Laws.StructEq
namespace Go.Proofs.Ytbajfgllgfmnfaa.pg
open Go.ChangeShapes Go.WideShapes Go.ChangeAt Go.RowKit
set_option linter.unusedVariables false
set_option linter.unusedSimpArgs false
set_option maxRecDepth 100000
/-- An access. -/
structure Acc where
  kind : Int
  num : Int
  wr : Bool
def Acc.cells (x : Acc) : List Value := [.int .i64 x.kind, .int .i64 x.num, .bool x.wr]
abbrev Acc.val (x : Acc) : Value := .agg #[.int .i64 x.kind, .int .i64 x.num, .bool x.wr]
def Acc.wf (x : Acc) : Prop := I64 x.kind ∧ I64 x.num
abbrev objA (x : Acc) : Obj := .cells #[.int .i64 x.kind, .int .i64 x.num, .bool x.wr] 63
def BoxA (w : World) (B : Nat) (x : Acc) : Prop := w.cell? ⟨B, 0, none⟩ = some (.int .i64 x.kind) ∧ w.cell? ⟨B, 1, none⟩ = some (.int .i64 x.num) ∧ w.cell? ⟨B, 2, none⟩ = some (.bool x.wr)
theorem BoxA.later {w w' : World} {B : Nat} {x : Acc} (h : BoxA w B x) (hb : Below w.heap.size w w') : BoxA w' B x := ⟨cell_later hb h.1, cell_later hb h.2.1, cell_later hb h.2.2⟩
theorem boxA_new (w : World) (x : Acc) : BoxA (w.alloc (objA x)) w.heap.size x := by
  refine ⟨?_, ?_, ?_⟩ <;> exact World.cell?_alloc_at _ _ _ _ rfl
theorem list3 {α : Type} {cs : List α} (h : cs.length = 3) {a b c : α} (h0 : cs[0]? = some a) (h1 : cs[1]? = some b) (h2 : cs[2]? = some c) : cs = [a, b, c] := by
  match cs, h with
  | [_, _, _], _ => simp_all
theorem len3a (l : List Acc) : ∀ row ∈ l.map Acc.cells, row.length = 3 := by intro r hr; obtain ⟨x, _, rfl⟩ := List.mem_map.mp hr; rfl
theorem one3a (l : List Acc) : ∀ row ∈ l.map Acc.cells, ∀ u ∈ row, u.oneCell' = true := by
  intro r hr
  obtain ⟨x, _, rfl⟩ := List.mem_map.mp hr
  intro u hu
  simp only [Acc.cells, List.mem_cons, List.not_mem_nil, or_false] at hu
  rcases hu with rfl | rfl | rfl <;> rfl
section
variable {H : Type} {enc : TypeId × Value → H} {w : World} {base : Nat} {spare : Nat → Bool} {held : Bool}
theorem acc_in {n : Nat} {cs : List Value} {y : DataW H × List MemPlace} (hl : cs.length = 3) (h : DataW.trod enc Try.prog w base spare held n 63 cs = some y) : ∃ x : Acc, cs = x.cells ∧ x.wf := by
  obtain ⟨v0, _, _, e0, t0⟩ := field_in Try.underlying63 h 0 _ rfl rfl (by kernel_rfl) (by omega)
  obtain ⟨v1, _, _, e1, t1⟩ := field_in Try.underlying63 h 1 _ rfl rfl (by kernel_rfl) (by omega)
  obtain ⟨v2, _, _, e2, t2⟩ := field_in Try.underlying63 h 2 _ rfl rfl (by kernel_rfl) (by omega)
  obtain ⟨z0, rfl, b0⟩ := int_in Try.underlying3 t0
  obtain ⟨z1, rfl, b1⟩ := int_in Try.underlying3 t1
  obtain ⟨z2, rfl⟩ := bool_in Try.underlying4 t2
  exact ⟨⟨z0, z1, z2⟩, list3 hl e0 e1 e2, b0, b1⟩
/-- A list of accesses, opened. -/
theorem accs_in {n : Nat} {a : Option Addr} {len cap : Nat} {y : DataW H × List MemPlace} (h : DataW.trod enc Try.prog w base spare held n 95 [.slice a len cap] = some y) : ∃ l : List Acc, l.length = len ∧ Rows w 3 a cap (l.map Acc.cells) ∧ ∀ x ∈ l, x.wf :=
  rows_in (k := 3) ⟨0, 0, false⟩ Acc.cells Acc.wf Try.underlying95 (by kernel_rfl) (by omega) (fun n cs y hl h => acc_in hl h) h
end
theorem acc_ix {w : World} {a : Option Addr} {cap : Nat} {l : List Acc} (h : Rows w 3 a cap (l.map Acc.cells)) (i : Nat) (x : Acc) (hi : l[i]? = some x) :
    ∃ b o, (∀ wx, (Instr.indexAt 95 (.slice a l.length cap) (.int .i64 (i : Int))).run Try.prog wx = .ok (.pointer (some ⟨b, o, none⟩)) wx) ∧ b < w.heap.size ∧ w.cell? ⟨b, o, none⟩ = some (.int .i64 x.kind) ∧ w.cell? ⟨b, o + 1, none⟩ = some (.int .i64 x.num) ∧ w.cell? ⟨b, o + 2, none⟩ = some (.bool x.wr) := by
  obtain ⟨b, o, hr, hlt, hc⟩ := h.ix 95 63 Try.underlying95 (by kernel_rfl) (fun wx => Try.sizeOf63 wx) i (row := x.cells) (by simp [hi])
  rw [List.length_map] at hr
  exact ⟨b, o, hr, hlt, hc 0 _ rfl, hc 1 _ rfl, hc 2 _ rfl⟩
theorem take_one {α : Type} (l : List α) (j : Nat) (x : α) (h : l[j]? = some x) : l.take (j + 1) = l.take j ++ [x] := by
  rw [List.take_add_one, h]; rfl
/-- Two accesses of one object, one of which writes it. -/
def meets (x y : Acc) : Bool := (x.kind == y.kind && x.num == y.num) && (x.wr || y.wr)
/-- Two lists clash. -/
def clash (a b : List Acc) : Bool := a.any fun x => b.any (meets x)
theorem clash_true {a b : List Acc} {x y : Acc} (hx : x ∈ a) (hy : y ∈ b) (h : meets x y = true) : clash a b = true := List.any_eq_true.mpr ⟨x, hx, List.any_eq_true.mpr ⟨y, hy, h⟩⟩
theorem clash_false {a b : List Acc} (h : ∀ x ∈ a, ∀ y ∈ b, meets x y = false) : clash a b = false := by
  rw [Bool.eq_false_iff]
  intro q
  obtain ⟨x, hx, q⟩ := List.any_eq_true.mp q
  obtain ⟨y, hy, q⟩ := List.any_eq_true.mp q
  rw [h x hx y hy] at q
  cases q
theorem beq_swap (a b : Int) : (a == b) = (b == a) := Bool.eq_iff_iff.mpr ⟨fun h => by rw [beq_iff_eq] at h ⊢; exact h.symm, fun h => by rw [beq_iff_eq] at h ⊢; exact h.symm⟩
theorem meets_comm (x y : Acc) : meets x y = meets y x := by
  unfold meets
  rw [Bool.or_comm x.wr y.wr, beq_swap x.kind y.kind, beq_swap x.num y.num]
theorem clash_comm (a b : List Acc) : clash a b = clash b a := by
  rw [Bool.eq_iff_iff]
  constructor
  all_goals
    intro q
    obtain ⟨x, hx, q⟩ := List.any_eq_true.mp q
    obtain ⟨y, hy, q⟩ := List.any_eq_true.mp q
    exact clash_true hy hx (by rw [meets_comm]; exact q)
def eqA (x y : Acc) : Bool := x.kind == y.kind && x.num == y.num && x.wr == y.wr
theorem eqA_iff (x y : Acc) : eqA x y = true ↔ x = y := by
  cases x; cases y; simp [eqA, Bool.and_eq_true, beq_iff_eq, and_assoc]
theorem run_eqA (x y : Acc) (w : World) : (binOp .eql 63 x.val y.val).run Try.prog w = .ok (.bool (eqA x y)) w := by
  have u0 := Try.underlying4
  have a0 := Try.isAgg4
  have z0 := Try.sizeOf4
  have u1 := Try.underlying3
  have a1 := Try.isAgg3
  have z1 := Try.sizeOf3
  have hS : Try.prog.underlying 63 = some (.struct (Try.prog.fieldsOf 63)) := by kernel_rfl
  have hp : Try.prog.stoodInHeld 63 = false := by kernel_rfl
  rw [run_eql_struct, show (10000 : Nat) = 9999 + 1 from rfl, run_equalIn_agg w 9999 63 _ _ hS hp]
  simp only [Program.fieldsOf, Try.underlying63]
  go_simp
  by_cases h0 : x.kind = y.kind <;> by_cases h1 : x.num = y.num <;> by_cases h2 : x.wr = y.wr <;> simp [eqA, h0, h1, h2]
theorem run_neA (x y : Acc) (w : World) : (binOp .neq 63 x.val y.val).run Try.prog w = .ok (.bool (!eqA x y)) w := by
  have u0 := Try.underlying4
  have a0 := Try.isAgg4
  have z0 := Try.sizeOf4
  have u1 := Try.underlying3
  have a1 := Try.isAgg3
  have z1 := Try.sizeOf3
  have hS : Try.prog.underlying 63 = some (.struct (Try.prog.fieldsOf 63)) := by kernel_rfl
  have hp : Try.prog.stoodInHeld 63 = false := by kernel_rfl
  rw [run_neq_struct, show (10000 : Nat) = 9999 + 1 from rfl, run_equalIn_agg w 9999 63 _ _ hS hp]
  simp only [Program.fieldsOf, Try.underlying63]
  go_simp
  by_cases h0 : x.kind = y.kind <;> by_cases h1 : x.num = y.num <;> by_cases h2 : x.wr = y.wr <;> simp [eqA, h0, h1, h2]
/-- An access but for whether it writes. -/
abbrev Acc.obj (x : Acc) : Acc := ⟨x.kind, x.num, false⟩
theorem object_any (x : Acc) (w : World) : Calls Try.prog 89 #[x.val] w fun e w' => e = .returned (x.obj.val) ∧ Below w.heap.size w w' := by
  go_enter Try.func89, Try.ntmps89
  go_wp2
  exact bodyPost_ret (v := x.obj.val) (by simp [results, Try.results89, go_sem]) rfl ⟨rfl, boxed2 _ _ _⟩
end Go.Proofs.Ytbajfgllgfmnfaa.pg
