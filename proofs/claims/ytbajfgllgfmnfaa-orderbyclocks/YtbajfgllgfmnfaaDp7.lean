/- What every statement of package depend asks first. -/
import Derived.Test.YtbajfgllgfmnfaaDp6
namespace Go.Proofs.Ytbajfgllgfmnfaa.pg
open Go.ChangeShapes Go.WideShapes Go.ChangeAt Go.RowKit
set_option linter.unusedVariables false
set_option linter.unusedSimpArgs false
set_option maxRecDepth 100000
attribute [local go_sem ↓] Go.wp_at_zero Go.wp_at_succ
/-- The event of noughts. -/
abbrev ev0 : Ev := ⟨0, 0, 0, 0, 0, 0, 0, ⟨0, 0, false⟩, ⟨0, 0, false⟩, ⟨0, 0, false⟩, ⟨0, 0, false⟩, ⟨0, 0, false⟩, ⟨0, 0, false⟩, 0⟩
theorem rows_acc {w : World} {g : Nat} {x : Acc} (h : BoxA w g x) : Rows w 3 (some ⟨g, 0, none⟩) 1 ([x].map Acc.cells) := by
  refine ⟨by simp, by omega, by simp, .inr ⟨g, 0, rfl, World.block_lt_of_cell? _ _ h.1, fun i row hi => ?_⟩⟩
  match i with
  | 0 =>
    simp at hi
    subst hi
    refine ⟨rfl, fun j u hj => ?_⟩
    match j with
    | 0 => simp [Acc.cells] at hj; subst hj; exact h.1
    | 1 => simp [Acc.cells] at hj; subst hj; exact h.2.1
    | 2 => simp [Acc.cells] at hj; subst hj; exact h.2.2
    | j + 3 => simp [Acc.cells] at hj
  | i + 1 => simp at hi
end Go.Proofs.Ytbajfgllgfmnfaa.pg
