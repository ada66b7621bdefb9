/- Clocks as plain data, and where they lie. -/
import Derived.Test.YtbajfgllgfmnfaaBox
import Derived.Test.YtbajfgllgfmnfaaPgSz
import Derived.Laws.StructEq
namespace Go.Proofs.Ytbajfgllgfmnfaa.pg
open Go.ChangeShapes Go.WideShapes Go.ChangeAt Go.RowKit
set_option linter.unusedVariables false
set_option linter.unusedSimpArgs false
set_option maxRecDepth 100000
/-- A clock. -/
structure Ck where
  c0 : Int
  c1 : Int
  c2 : Int
  c3 : Int
  c4 : Int
  c5 : Int
def Ck.cells (x : Ck) : List Value := [.int .i64 x.c0, .int .i64 x.c1, .int .i64 x.c2, .int .i64 x.c3, .int .i64 x.c4, .int .i64 x.c5]
abbrev Ck.val (x : Ck) : Value := .agg #[.int .i64 x.c0, .int .i64 x.c1, .int .i64 x.c2, .int .i64 x.c3, .int .i64 x.c4, .int .i64 x.c5]
def Ck.list (x : Ck) : List Int := [x.c0, x.c1, x.c2, x.c3, x.c4, x.c5]
def Ck.wf (x : Ck) : Prop := I64 x.c0 ∧ I64 x.c1 ∧ I64 x.c2 ∧ I64 x.c3 ∧ I64 x.c4 ∧ I64 x.c5
abbrev objK (x : Ck) : Obj := .cells #[.int .i64 x.c0, .int .i64 x.c1, .int .i64 x.c2, .int .i64 x.c3, .int .i64 x.c4, .int .i64 x.c5] 40
def BoxK (w : World) (B : Nat) (x : Ck) : Prop := w.cell? ⟨B, 0, none⟩ = some (.int .i64 x.c0) ∧ w.cell? ⟨B, 1, none⟩ = some (.int .i64 x.c1) ∧ w.cell? ⟨B, 2, none⟩ = some (.int .i64 x.c2) ∧ w.cell? ⟨B, 3, none⟩ = some (.int .i64 x.c3) ∧ w.cell? ⟨B, 4, none⟩ = some (.int .i64 x.c4) ∧ w.cell? ⟨B, 5, none⟩ = some (.int .i64 x.c5)
theorem BoxK.later {w w' : World} {B : Nat} {x : Ck} (h : BoxK w B x) (hb : Below w.heap.size w w') : BoxK w' B x := ⟨cell_later hb h.1, cell_later hb h.2.1, cell_later hb h.2.2.1, cell_later hb h.2.2.2.1, cell_later hb h.2.2.2.2.1, cell_later hb h.2.2.2.2.2⟩
theorem boxK_new (w : World) (x : Ck) : BoxK (w.alloc (objK x)) w.heap.size x := by
  refine ⟨?_, ?_, ?_, ?_, ?_, ?_⟩ <;> exact World.cell?_alloc_at _ _ _ _ rfl
/-- A clock is right. -/
def okC (n : Int) : Prop := 0 ≤ n ∧ n ≤ 1073741824
def Ck.ok (x : Ck) : Prop := ∀ n ∈ x.list, okC n
theorem Ck.ok_iff (x : Ck) : x.ok ↔ okC x.c0 ∧ okC x.c1 ∧ okC x.c2 ∧ okC x.c3 ∧ okC x.c4 ∧ okC x.c5 := by
  unfold Ck.ok Ck.list
  simp
theorem Ck.list_len (x : Ck) : x.list.length = 6 := rfl
theorem ck_ix (x : Ck) (k : Nat) (n : Int) (h : x.list[k]? = some n) : ∀ wx, (Instr.index 40 x.val (.int .i64 (k : Int))).run Try.prog wx = .ok (.int .i64 n) wx := by
  match k, h with
  | 0, h => simp only [Ck.list, List.getElem?_cons_zero, List.getElem?_cons_succ, Option.some.injEq] at h; subst h; exact fun _ => by kernel_rfl
  | 1, h => simp only [Ck.list, List.getElem?_cons_zero, List.getElem?_cons_succ, Option.some.injEq] at h; subst h; exact fun _ => by kernel_rfl
  | 2, h => simp only [Ck.list, List.getElem?_cons_zero, List.getElem?_cons_succ, Option.some.injEq] at h; subst h; exact fun _ => by kernel_rfl
  | 3, h => simp only [Ck.list, List.getElem?_cons_zero, List.getElem?_cons_succ, Option.some.injEq] at h; subst h; exact fun _ => by kernel_rfl
  | 4, h => simp only [Ck.list, List.getElem?_cons_zero, List.getElem?_cons_succ, Option.some.injEq] at h; subst h; exact fun _ => by kernel_rfl
  | 5, h => simp only [Ck.list, List.getElem?_cons_zero, List.getElem?_cons_succ, Option.some.injEq] at h; subst h; exact fun _ => by kernel_rfl
  | k + 6, h => simp [Ck.list] at h
/-- An index of a clock in its box. -/
theorem ck_at (B : Nat) (k : Nat) (h : k < 6) : ∀ wx, (Instr.indexAt 40 (.pointer (some ⟨B, 0, none⟩)) (.int .i64 (k : Int))).run Try.prog wx = .ok (.pointer (some ⟨B, k, none⟩)) wx := by
  match k, h with
  | 0, _ => exact fun _ => by kernel_rfl
  | 1, _ => exact fun _ => by kernel_rfl
  | 2, _ => exact fun _ => by kernel_rfl
  | 3, _ => exact fun _ => by kernel_rfl
  | 4, _ => exact fun _ => by kernel_rfl
  | 5, _ => exact fun _ => by kernel_rfl
section
variable {H : Type} {enc : TypeId × Value → H} {w : World} {base : Nat} {spare : Nat → Bool} {held : Bool}
theorem len6 {α : Type} {l : List α} (h : l.length = 6) : ∃ a b c d e f, l = [a, b, c, d, e, f] := by
  match l, h with
  | [a, b, c, d, e, f], _ => exact ⟨a, b, c, d, e, f, rfl⟩
theorem ck_in {n : Nat} {cs : List Value} {y : DataW H × List MemPlace} (hl : cs.length = 6) (h : DataW.trod enc Try.prog w base spare held n 40 cs = some y) : ∃ x : Ck, cs = x.cells ∧ x.wf := by
  have hc1 : Try.prog.cellsOf 3 = 1 := by kernel_rfl
  obtain ⟨xs, m, _, _, _, hlen, hf⟩ := DataW.trod_array Try.underlying40 h
  rw [hc1] at hf
  obtain ⟨v0, v1, v2, v3, v4, v5, rfl⟩ := len6 hl
  obtain ⟨y0, y1, y2, y3, y4, y5, rfl⟩ := len6 hlen
  obtain ⟨z0, rfl, b0⟩ := int_in Try.underlying3 (hf 0 (by omega))
  obtain ⟨z1, rfl, b1⟩ := int_in Try.underlying3 (hf 1 (by omega))
  obtain ⟨z2, rfl, b2⟩ := int_in Try.underlying3 (hf 2 (by omega))
  obtain ⟨z3, rfl, b3⟩ := int_in Try.underlying3 (hf 3 (by omega))
  obtain ⟨z4, rfl, b4⟩ := int_in Try.underlying3 (hf 4 (by omega))
  obtain ⟨z5, rfl, b5⟩ := int_in Try.underlying3 (hf 5 (by omega))
  exact ⟨⟨z0, z1, z2, z3, z4, z5⟩, rfl, b0, b1, b2, b3, b4, b5⟩
/-- A clock that came in. -/
theorem ck_arg {n : Nat} {cs : Array Value} {y : DataW H × List MemPlace} (hs : cs.size = 6) (h : DataW.trod enc Try.prog w base spare held n 40 (Value.agg cs).cells.toList = some y) : ∃ x : Ck, Value.agg cs = x.val ∧ x.wf := by
  obtain ⟨x, hx, hw⟩ := ck_in (cs := cs.toList) (by simpa using hs) h
  refine ⟨x, ?_, hw⟩
  have : cs = x.cells.toArray := by rw [← hx]
  rw [this]
  rfl
end
def eqK (x y : Ck) : Bool := x.c0 == y.c0 && x.c1 == y.c1 && x.c2 == y.c2 && x.c3 == y.c3 && x.c4 == y.c4 && x.c5 == y.c5
theorem eqK_iff (x y : Ck) : eqK x y = true ↔ x = y := by
  cases x; cases y; simp [eqK, Bool.and_eq_true, beq_iff_eq, and_assoc]
end Go.Proofs.Ytbajfgllgfmnfaa.pg
