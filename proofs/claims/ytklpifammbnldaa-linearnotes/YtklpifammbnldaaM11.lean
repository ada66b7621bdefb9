/- Whether two events depend on each other, by package depend and by the document's own. -/
import Derived.Test.YtklpifammbnldaaM10
import Derived.Test.YtklpifammbnldaaM4
import Derived.Deep.MidRow
import Derived.Test.YtklpifammbnldaaM5
import Derived.Test.YtklpifammbnldaaM3
namespace Go.Proofs.Ytklpifammbnldaa.pg
open Go.ChangeShapes Go.WideShapes Go.ChangeAt Go.RowKit
set_option linter.unusedVariables false
set_option linter.unusedSimpArgs false
set_option maxRecDepth 100000
attribute [local go_sem ↓] Go.wp_at_zero Go.wp_at_succ
theorem quiet_ev {W : World} {B : Nat} {x : Ev} (hB : ∀ s : Cls (Bey W), BoxE s.w B x) {K : Act → Prop} {o : Oper} {a : Act} (y : Operand) (ho : o.op = .load 92 y) (hx : a.eval y = .pointer (some ⟨B, 0, none⟩)) (hk : K (a.put o.dst x.val)) : o.quiet Try.prog a (fun w' => ∃ s : Cls (Bey W), w' = s.w) K :=
  quiet_load_mid 92 y ho B 0 hx x.cells _ (fun s j v hv => by rw [Nat.zero_add]; exact (hB s).at j v hv) Try.underlying92 rfl (by kernel_rfl) hk
end Go.Proofs.Ytklpifammbnldaa.pg
/- What the document's own package says an event touches. -/
namespace Go.Proofs.Ytklpifammbnldaa.pg
open Go.ChangeShapes Go.WideShapes Go.ChangeAt Go.RowKit
set_option linter.unusedVariables false
set_option linter.unusedSimpArgs false
set_option maxRecDepth 100000
attribute [local go_sem ↓] Go.wp_at_zero Go.wp_at_succ
theorem infoA : (Try.prog.info? 89).map (fun i => (i.zero, i.size, i.bytes)) = some (some (.agg #[.int .i64 0, .int .i64 0, .bool false]), 3, 24) := by kernel_rfl
/-- An access of an event in its box, by its place. -/
theorem ev_ix {w : World} {B : Nat} {x : Ev} (h : BoxE w B x) (i : Nat) (a : Acc) (hi : x.list[i]? = some a) :
    (∀ wx, (Instr.indexAt 90 (.pointer (some ⟨B, 7, none⟩)) (.int .i64 (i : Int))).run Try.prog wx = .ok (.pointer (some ⟨B, 7 + i * 3, none⟩)) wx) ∧ w.cell? ⟨B, 7 + i * 3, none⟩ = some (.int .i64 a.kind) ∧ w.cell? ⟨B, 7 + i * 3 + 1, none⟩ = some (.int .i64 a.num) ∧ w.cell? ⟨B, 7 + i * 3 + 2, none⟩ = some (.bool a.wr) := by
  have hl : i < 6 := by have := (List.getElem?_eq_some_iff.mp hi).1; simpa [Ev.list] using this
  refine ⟨fun wx => ?_, ?_, ?_, ?_⟩
  · have h6 : i = 0 ∨ i = 1 ∨ i = 2 ∨ i = 3 ∨ i = 4 ∨ i = 5 := by omega
    have u := Try.underlying90
    have z := Try.sizeOf89
    rcases h6 with rfl | rfl | rfl | rfl | rfl | rfl
    all_goals simp [Instr.indexAt, run_underlying u, asIntOf, go_sem, z]
  · have := x.list_at h i a hi 0 _ rfl; simpa using this
  · have := x.list_at h i a hi 1 _ rfl; rw [Nat.add_assoc]; exact this
  · have := x.list_at h i a hi 2 _ rfl; rw [Nat.add_assoc]; exact this
/-- How far Of has come. -/
structure OfSt (x : Ev) (W : World) (k : Nat) (va : Option Addr) (vc : Nat) (wr : World) : Prop where
  be : Below W.heap.size W wr
  ow : OwnL wr W.heap.size 89 3 va vc ((x.list.take k).map Acc.cells)
theorem tN_lt {n : Int} {k : Nat} (h : k < tN n) : (k : Int) < 6 ∧ (k : Int) < n := by
  have h1 := tN_int n
  rw [Int.max_def, Int.min_def] at h1
  split at h1 <;> split at h1 <;> omega
theorem tN_ge {n : Int} {k : Nat} (h : k ≤ tN n) (h2 : ¬ k < tN n) : ¬ (k : Int) < 6 ∨ (k : Int) < 6 ∧ ¬ (k : Int) < n := by
  have h1 := tN_int n
  rw [Int.max_def, Int.min_def] at h1
  split at h1 <;> split at h1 <;> omega
end Go.Proofs.Ytklpifammbnldaa.pg
/- Whether two events depend on each other, by the document's own. -/
namespace Go.Proofs.Ytklpifammbnldaa.pg
open Go.ChangeShapes Go.WideShapes Go.ChangeAt Go.RowKit
set_option linter.unusedVariables false
set_option linter.unusedSimpArgs false
set_option maxRecDepth 100000
attribute [local go_sem ↓] Go.wp_at_zero Go.wp_at_succ
theorem BoxE.range {w : World} {B : Nat} {x : Ev} (h : BoxE w B x) : w.rangeAt B 0 x.cells := fun j v hv => by rw [Nat.zero_add]; exact h.at j v hv
theorem keepE2 {W w' : World} {A B : Nat} {x y : Ev} (h1 : BoxE W A x) (h2 : BoxE W B y) (hb : Below W.heap.size W w') : w'.rangeAt A 0 x.cells ∧ w'.rangeAt B 0 y.cells ∧ Below W.heap.size W w' :=
  ⟨(h1.later hb).range, (h2.later hb).range, hb⟩
end Go.Proofs.Ytklpifammbnldaa.pg
