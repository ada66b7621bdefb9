/- Clocks held against each other; whether they are right. -/
import Derived.Test.YtdfnmlcpimiboaaM10
import Derived.Test.YtdfnmlcpimiboaaM3
import Derived.ChangeKeysEq
import Derived.Lib.MinMax
import Derived.Outline
import Derived.Laws.Tables
import Derived.Test.YtdfnmlcpimiboaaM6
namespace Go.Proofs.Ytdfnmlcpimiboaa.pg
open Go.ChangeShapes Go.WideShapes Go.ChangeAt Go.RowKit
set_option linter.unusedVariables false
set_option linter.unusedSimpArgs false
set_option maxRecDepth 100000
attribute [local go_sem ↓] Go.wp_at_zero Go.wp_at_succ
theorem infoI_some : ∃ i, Try.prog.info? 3 = some i := by
  have h : (Try.prog.info? 3).isSome = true := by kernel_rfl
  exact Option.isSome_iff_exists.mp h
end Go.Proofs.Ytdfnmlcpimiboaa.pg
/- Join and Meet of clocks. -/
namespace Go.Proofs.Ytdfnmlcpimiboaa.pg
open Go.ChangeShapes Go.WideShapes Go.ChangeAt Go.RowKit
set_option linter.unusedVariables false
set_option linter.unusedSimpArgs false
set_option maxRecDepth 100000
attribute [local go_sem ↓] Go.wp_at_zero Go.wp_at_succ
abbrev Ck.join (x y : Ck) : Ck := ⟨max x.c0 y.c0, max x.c1 y.c1, max x.c2 y.c2, max x.c3 y.c3, max x.c4 y.c4, max x.c5 y.c5⟩
abbrev Ck.meet (x y : Ck) : Ck := ⟨min x.c0 y.c0, min x.c1 y.c1, min x.c2 y.c2, min x.c3 y.c3, min x.c4 y.c4, min x.c5 y.c5⟩
abbrev zeroK : Ck := ⟨0, 0, 0, 0, 0, 0⟩
theorem below_setRow {n B : Nat} {a w : World} (h : Below n a w) (hB : n ≤ B) (cs : Array Value) : Below n a (w.setRow B cs) :=
  ⟨h.os, h.tape, h.output, by rw [setRow_size]; exact h.size, fun k hk => (setRow_other w B k cs (by omega)).trans (h.block k hk)⟩
theorem one6 (x : Ck) : x.cells.toArray.all (·.oneCell') = true := by simp [Ck.cells, Value.oneCell']
end Go.Proofs.Ytdfnmlcpimiboaa.pg
/- Lists of clocks: what is wrong with them. Join, Meet, Cmp. -/
namespace Go.Proofs.Ytdfnmlcpimiboaa.pg
open Go.ChangeShapes Go.WideShapes Go.ChangeAt Go.RowKit
set_option linter.unusedVariables false
set_option linter.unusedSimpArgs false
set_option maxRecDepth 100000
attribute [local go_sem ↓] Go.wp_at_zero Go.wp_at_succ
/-- What is wrong with a list of clocks. -/
def errL (l : List Ck) (c : Int) : Prop := (256 < l.length ∧ c = 2) ∨ (l.length ≤ 256 ∧ (∃ x ∈ l, ¬ x.ok) ∧ c = 1) ∨ (l.length ≤ 256 ∧ (∀ x ∈ l, x.ok) ∧ c = 0)
theorem take_more {α : Type} {p : α → Prop} {l : List α} {k : Nat} {x : α} (hx : l[k]? = some x) (h : ∀ z ∈ l.take k, p z) (hp : p x) : ∀ z ∈ l.take (k + 1), p z := by
  intro z hz
  rw [List.take_add_one, hx] at hz
  simp only [Option.toList_some, List.mem_append, List.mem_singleton] at hz
  rcases hz with hz | rfl
  · exact h z hz
  · exact hp
/-- Two clocks, laid one behind the other. -/
theorem rows_two {w : World} {b : Nat} {x y : Ck} {t : TypeId} (h : w.heap[b]? = some (.cells #[.int .i64 x.c0, .int .i64 x.c1, .int .i64 x.c2, .int .i64 x.c3, .int .i64 x.c4, .int .i64 x.c5, .int .i64 y.c0, .int .i64 y.c1, .int .i64 y.c2, .int .i64 y.c3, .int .i64 y.c4, .int .i64 y.c5] t (0, 0))) : Rows w 6 (some ⟨b, 0, none⟩) 2 ([x, y].map Ck.cells) := by
  refine ⟨by simp, by omega, by simp, .inr ⟨b, 0, rfl, (Array.getElem?_eq_some_iff.mp h).1, fun i row hi => ?_⟩⟩
  match i, hi with
  | 0, hi =>
    simp at hi
    subst hi
    refine ⟨rfl, fun j u hj => ?_⟩
    rw [cell_of_row w b _ _ _ _ h]
    match j, hj with
    | 0, hj => exact hj
    | 1, hj => exact hj
    | 2, hj => exact hj
    | 3, hj => exact hj
    | 4, hj => exact hj
    | 5, hj => exact hj
    | j + 6, hj => simp [Ck.cells] at hj
  | 1, hi =>
    simp at hi
    subst hi
    refine ⟨rfl, fun j u hj => ?_⟩
    rw [cell_of_row w b _ _ _ _ h]
    match j, hj with
    | 0, hj => exact hj
    | 1, hj => exact hj
    | 2, hj => exact hj
    | 3, hj => exact hj
    | 4, hj => exact hj
    | 5, hj => exact hj
    | j + 6, hj => simp [Ck.cells] at hj
  | i + 2, hi => simp at hi
end Go.Proofs.Ytdfnmlcpimiboaa.pg
