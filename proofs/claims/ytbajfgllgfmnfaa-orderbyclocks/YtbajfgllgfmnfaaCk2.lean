/- Join and Meet of clocks. -/
import Derived.Test.YtbajfgllgfmnfaaCk1
import Derived.Outline
import Derived.Laws.Tables
namespace Go.Proofs.Ytbajfgllgfmnfaa.pg
open Go.ChangeShapes Go.WideShapes Go.ChangeAt Go.RowKit
set_option linter.unusedVariables false
set_option linter.unusedSimpArgs false
set_option maxRecDepth 100000
attribute [local go_sem ↓] Go.wp_at_zero Go.wp_at_succ
abbrev Ck.join (x y : Ck) : Ck := ⟨max x.c0 y.c0, max x.c1 y.c1, max x.c2 y.c2, max x.c3 y.c3, max x.c4 y.c4, max x.c5 y.c5⟩
abbrev Ck.meet (x y : Ck) : Ck := ⟨min x.c0 y.c0, min x.c1 y.c1, min x.c2 y.c2, min x.c3 y.c3, min x.c4 y.c4, min x.c5 y.c5⟩
theorem ck_ixs (y : Ck) : (∀ wx, (Instr.index 40 y.val (.int .i64 0)).run Try.prog wx = .ok (.int .i64 y.c0) wx) ∧ (∀ wx, (Instr.index 40 y.val (.int .i64 1)).run Try.prog wx = .ok (.int .i64 y.c1) wx) ∧ (∀ wx, (Instr.index 40 y.val (.int .i64 2)).run Try.prog wx = .ok (.int .i64 y.c2) wx) ∧ (∀ wx, (Instr.index 40 y.val (.int .i64 3)).run Try.prog wx = .ok (.int .i64 y.c3) wx) ∧ (∀ wx, (Instr.index 40 y.val (.int .i64 4)).run Try.prog wx = .ok (.int .i64 y.c4) wx) ∧ (∀ wx, (Instr.index 40 y.val (.int .i64 5)).run Try.prog wx = .ok (.int .i64 y.c5) wx) :=
  ⟨ck_ix y 0 _ rfl, ck_ix y 1 _ rfl, ck_ix y 2 _ rfl, ck_ix y 3 _ rfl, ck_ix y 4 _ rfl, ck_ix y 5 _ rfl⟩
theorem join_in (x y : Ck) (w : World) : Calls Try.prog 79 #[x.val, y.val] w fun e w' => e = .returned (x.join y).val ∧ Below w.heap.size w w' := by
  obtain ⟨i0, i1, i2, i3, i4, i5⟩ := ck_ixs y
  go_enter Try.func79, Try.ntmps79
  go_wp2
  go_rounds 7
  exact bodyPost_ret (v := (x.join y).val) (by simp [results, Try.results79, go_sem]) rfl ⟨rfl, boxed3 _ _ _ _⟩
theorem infoK : (Try.prog.info? 40).map (·.size) = some 6 := by kernel_rfl
abbrev zeroK : Ck := ⟨0, 0, 0, 0, 0, 0⟩
/-- A clock has a block of its own. -/
def InB (w : World) (B : Nat) (x : Ck) : Prop := w.heap[B]? = some (objK x)
theorem InB.lt {w : World} {B : Nat} {x : Ck} (h : InB w B x) : B < w.heap.size := (Array.getElem?_eq_some_iff.mp h).1
theorem InB.later {w w' : World} {B : Nat} {x : Ck} (h : InB w B x) (hb : Below w.heap.size w w') : InB w' B x := (hb.block B h.lt).trans h
theorem inB_new (w : World) (x : Ck) : InB (w.alloc (objK x)) w.heap.size x := heap_alloc_new w _
theorem InB.set {w : World} {B : Nat} {x : Ck} (h : InB w B x) (y : Ck) : InB (w.setRow B y.cells.toArray) B y := setRow_heap w B _ _ _ _ h
theorem InB.other {w : World} {B B' : Nat} {x : Ck} (h : InB w B x) (cs : Array Value) (hne : B ≠ B') : InB (w.setRow B' cs) B x := (setRow_other w B' B cs hne).trans h
theorem InB.box {w : World} {B : Nat} {x : Ck} (h : InB w B x) : BoxK w B x :=
  ⟨cell_of_row w B 0 _ _ _ h, cell_of_row w B 1 _ _ _ h, cell_of_row w B 2 _ _ _ h, cell_of_row w B 3 _ _ _ h, cell_of_row w B 4 _ _ _ h, cell_of_row w B 5 _ _ _ h⟩
theorem below_setRow {n B : Nat} {a w : World} (h : Below n a w) (hB : n ≤ B) (cs : Array Value) : Below n a (w.setRow B cs) :=
  ⟨h.os, h.tape, h.output, by rw [setRow_size]; exact h.size, fun k hk => (setRow_other w B k cs (by omega)).trans (h.block k hk)⟩
theorem one6 (x : Ck) : x.cells.toArray.all (·.oneCell') = true := by simp [Ck.cells, Value.oneCell']
/-- What is returned: a clock in its cell, and a number. -/
theorem results_ck {fn : Func} {p q : Tmp} (h : fn.results = #[.cell p 40, .tmp q]) (tmps : Array Value) (w : World) (B : Nat) (x : Ck) (v : Value) (hp : tmps.getD p undef = .pointer (some ⟨B, 0, none⟩)) (hq : tmps.getD q undef = v) (hB : InB w B x) :
    (results fn tmps).run Try.prog w = .ok (.tuple #[x.val, v]) w := by
  have hp' : tmps[p]?.getD undef = .pointer (some ⟨B, 0, none⟩) := by simpa using hp
  have hq' : tmps[q]?.getD undef = v := by simpa using hq
  simp [results, h, hp', hq', asAddr, run_loadVar_row w B _ 40 _ _ _ hB Try.underlying40 rfl infoK]
end Go.Proofs.Ytbajfgllgfmnfaa.pg
