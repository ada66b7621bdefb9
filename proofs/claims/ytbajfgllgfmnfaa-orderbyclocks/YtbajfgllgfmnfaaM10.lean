/- What is no event of a trace: Check of it. -/
import Derived.Test.YtbajfgllgfmnfaaM9
namespace Go.Proofs.Ytbajfgllgfmnfaa.pg
open Go.ChangeShapes Go.WideShapes Go.ChangeAt Go.RowKit
set_option linter.unusedVariables false
set_option linter.unusedSimpArgs false
set_option maxRecDepth 100000
attribute [local go_sem ↓] Go.wp_at_zero Go.wp_at_succ
theorem ev_one (x : Ev) : x.cells.toArray.all (·.oneCell') = true := by simp [Ev.cells, Value.oneCell']
theorem right_few (x : Ev) (w : World) (hn : x.n < 1) : Calls Try.prog 55 #[x.val] w fun e w' => e = .returned (.bool false) ∧ Below w.heap.size w w' := by
  by_cases h0 : x.go < 0
  · go_enter Try.func55, Try.ntmps55
    go_wp2
    go_ret
    exact ⟨rfl, boxed _ _⟩
  · by_cases h1 : 6 ≤ x.go
    all_goals
      go_enter Try.func55, Try.ntmps55
      go_wp2
      go_ret
      exact ⟨rfl, boxed _ _⟩
set_option maxHeartbeats 1000000 in
theorem check_few (x : Ev) (w : World) (g : Nat) (hn : x.n < 1) (hr : w.rangeAt g 0 x.cells) : Calls Try.prog 46 #[.slice (some ⟨g, 0, none⟩) 1 1] w fun e w' => e = .returned (.int .i64 7) ∧ Below w.heap.size w w' := by
  have hrH : Hid (w.rangeAt g 0 x.cells) := hr
  have hu := Try.underlying66
  have hi : (Try.prog.info? 66).map (·.size) = some x.cells.length := by kernel_rfl
  have huH : Hid (Try.prog.underlying 66 = _) := hu
  have hiH : Hid ((Try.prog.info? 66).map (·.size) = some x.cells.length) := hi
  have c1 : ∀ wx, Calls Try.prog 55 #[.agg x.cells.toArray] wx _ := fun wx => right_few x wx hn
  clear hr hu hi
  go_enter Try.func46, Try.ntmps46
  go_wp2
  go_loopw [10] (fun u wr => u = .int .i64 0 ∧ wr = w) (fun _ _ => 0)
  case atStart => exact ⟨rfl, rfl⟩
  case round =>
    obtain ⟨rfl, rfl⟩ := hrel
    go_wp2_with (first
      | (refine wpList_load_mid rfl 66 _ rfl g 0 rfl x.cells _ hrH.out huH.out rfl hiH.out ?_)
      | (refine wpList_store_new rfl 66 _ _ rfl rfl _ x.cells.toArray rfl (by kernel_rfl) rfl (ev_one x) ?_)
      | (refine wpList_load_mid rfl 66 _ rfl wr.heap.size 0 rfl x.cells _ (boxE_new wr x).range huH.out rfl hiH.out ?_)
      | (go_at_call 55; (with_reducible refine (c1 _).mono ?_); rintro e w1 ⟨rfl, hb1⟩))
    go_ret
    exact ⟨rfl, bthen (boxed _ _) hb1⟩
end Go.Proofs.Ytbajfgllgfmnfaa.pg
/- What every statement of package depend asks first. -/
namespace Go.Proofs.Ytbajfgllgfmnfaa.pg
open Go.ChangeShapes Go.WideShapes Go.ChangeAt Go.RowKit
set_option linter.unusedVariables false
set_option linter.unusedSimpArgs false
set_option maxRecDepth 100000
attribute [local go_sem ↓] Go.wp_at_zero Go.wp_at_succ
/-- The event of noughts. -/
abbrev ev0 : Ev := ⟨0, 0, 0, 0, 0, 0, 0, ⟨0, 0, false⟩, ⟨0, 0, false⟩, ⟨0, 0, false⟩, ⟨0, 0, false⟩, ⟨0, 0, false⟩, ⟨0, 0, false⟩, 0⟩
theorem rows_acc {w : World} {g : Nat} {x : Acc} (h : BoxA w g x) : Rows w 3 (some ⟨g, 0, none⟩) 1 ([x].map Acc.cells) := by
  refine ⟨by simp, by omega, by simp, .inr ⟨g, 0, rfl, World.block_lt_of_cell? _ _ h.1, fun i row hi => ?_⟩⟩
  match i with
  | 0 =>
    simp at hi
    subst hi
    refine ⟨rfl, fun j u hj => ?_⟩
    match j with
    | 0 => simp [Acc.cells] at hj; subst hj; exact h.1
    | 1 => simp [Acc.cells] at hj; subst hj; exact h.2.1
    | 2 => simp [Acc.cells] at hj; subst hj; exact h.2.2
    | j + 3 => simp [Acc.cells] at hj
  | i + 1 => simp at hi
end Go.Proofs.Ytbajfgllgfmnfaa.pg
