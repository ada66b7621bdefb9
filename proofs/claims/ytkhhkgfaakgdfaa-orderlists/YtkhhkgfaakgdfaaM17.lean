/- below and Cmp of package clock; how two clocks stand. -/
import Derived.Test.YtkhhkgfaakgdfaaM16
namespace Go.Proofs.Ytkhhkgfaakgdfaa.pg
open Go.ChangeShapes Go.WideShapes Go.ChangeAt Go.RowKit
set_option linter.unusedVariables false
set_option linter.unusedSimpArgs false
set_option maxRecDepth 100000
attribute [local go_sem ↓] Go.wp_at_zero Go.wp_at_succ
/-- Not above. -/
def leK (x y : Ck) : Bool := decide (x.c0 ≤ y.c0) && decide (x.c1 ≤ y.c1) && decide (x.c2 ≤ y.c2) && decide (x.c3 ≤ y.c3) && decide (x.c4 ≤ y.c4) && decide (x.c5 ≤ y.c5)
theorem leK_iff (x y : Ck) : leK x y = true ↔ x.c0 ≤ y.c0 ∧ x.c1 ≤ y.c1 ∧ x.c2 ≤ y.c2 ∧ x.c3 ≤ y.c3 ∧ x.c4 ≤ y.c4 ∧ x.c5 ≤ y.c5 := by
  simp [leK, Bool.and_eq_true, and_assoc]
theorem max_eq_r (a b : Int) : (max a b == b) = decide (a ≤ b) := by
  rw [Bool.eq_iff_iff, beq_iff_eq, decide_eq_true_iff, Int.max_def]
  split <;> omega
theorem join_le (x y : Ck) : eqK (x.join y) y = leK x y := by
  simp only [eqK, leK, max_eq_r]
def belowK (x y : Ck) : Bool := !eqK x y && leK x y
theorem boxK_cls {W : World} {B : Nat} {x : Ck} (h : BoxK W B x) : (∀ s : Cls (Bey W), s.w.cell? ⟨B, 0, none⟩ = some (.int .i64 x.c0)) ∧ (∀ s : Cls (Bey W), s.w.cell? ⟨B, 1, none⟩ = some (.int .i64 x.c1)) ∧ (∀ s : Cls (Bey W), s.w.cell? ⟨B, 2, none⟩ = some (.int .i64 x.c2)) ∧ (∀ s : Cls (Bey W), s.w.cell? ⟨B, 3, none⟩ = some (.int .i64 x.c3)) ∧ (∀ s : Cls (Bey W), s.w.cell? ⟨B, 4, none⟩ = some (.int .i64 x.c4)) ∧ (∀ s : Cls (Bey W), s.w.cell? ⟨B, 5, none⟩ = some (.int .i64 x.c5)) :=
  ⟨fun s => (h.later s.h).1, fun s => (h.later s.h).2.1, fun s => (h.later s.h).2.2.1, fun s => (h.later s.h).2.2.2.1, fun s => (h.later s.h).2.2.2.2.1, fun s => (h.later s.h).2.2.2.2.2⟩
/-- How two clocks stand. -/
def cmpK (x y : Ck) : Int := if eqK x y then 0 else if leK x y then -1 else if leK y x then 1 else 2
theorem eqK_comm (x y : Ck) : eqK x y = eqK y x := by
  rw [Bool.eq_iff_iff, eqK_iff, eqK_iff]; exact eq_comm
theorem cmpK_cases (x y : Ck) : (eqK x y = true ∧ cmpK x y = 0) ∨ (eqK x y = false ∧ leK x y = true ∧ cmpK x y = -1) ∨ (eqK x y = false ∧ leK x y = false ∧ leK y x = true ∧ cmpK x y = 1) ∨ (eqK x y = false ∧ leK x y = false ∧ leK y x = false ∧ cmpK x y = 2) := by
  unfold cmpK
  cases eqK x y <;> cases leK x y <;> cases leK y x <;> simp
/-- Two boxes, and the list of two clocks behind them. -/
theorem check2 (x y : Ck) (c : Int) (hc : errL [x, y] c) (b : Nat) (wx : World) (t : TypeId) (h : wx.heap[b]? = some (.cells #[.int .i64 x.c0, .int .i64 x.c1, .int .i64 x.c2, .int .i64 x.c3, .int .i64 x.c4, .int .i64 x.c5, .int .i64 y.c0, .int .i64 y.c1, .int .i64 y.c2, .int .i64 y.c3, .int .i64 y.c4, .int .i64 y.c5] t (0, 0))) : Calls Try.prog 102 #[.slice (some ⟨b, 0, none⟩) 2 2] wx fun e w' => e = .returned (.int .i64 c) ∧ Below wx.heap.size wx w' := checks_any [x, y] _ 2 wx (rows_two h) c hc
end Go.Proofs.Ytkhhkgfaakgdfaa.pg
/- The document's own Join, Meet, Le, Cmp; Tick, by both; what is wrong with two clocks. -/
namespace Go.Proofs.Ytkhhkgfaakgdfaa.pg
open Go.ChangeShapes Go.WideShapes Go.ChangeAt Go.RowKit
set_option linter.unusedVariables false
set_option linter.unusedSimpArgs false
set_option maxRecDepth 100000
attribute [local go_sem ↓] Go.wp_at_zero Go.wp_at_succ
theorem Mix.later {w wr wr' : World} {n B C k : Nat} {M X : Ck} (h : Mix w n B C M X k wr) (hb : Below wr.heap.size wr wr') (hn : n ≤ wr.heap.size) : Mix w n B C M X k wr' := by
  obtain ⟨z, hz, hl⟩ := h.zz
  exact ⟨h.be.trans (hb.mono hn), ⟨z, hz.later hb, hl⟩, h.rs.later hb⟩
end Go.Proofs.Ytkhhkgfaakgdfaa.pg
