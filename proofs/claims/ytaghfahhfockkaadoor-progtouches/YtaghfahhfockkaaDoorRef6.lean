/- The contract of the document's own Right. -/
import Derived.Test.YtaghfahhfockkaaDoorRef5
namespace Go.Proofs.YtaghfahhfockkaaDoor.pg
open Go.ChangeShapes Go.WideShapes Go.ChangeAt Go.RowKit
set_option linter.unusedVariables false
set_option linter.unusedSimpArgs false
set_option maxRecDepth 100000
theorem rright_any (M : MPr) (w : World) (hl : M.lies w) (r : Bool) (hr : Hid (decide ((chk insR M.pr).1 = 0) = r)) :
    Calls Tryd.prog 12 #[M.val] w fun e w' => e = .returned (.bool r) ∧ Below w.heap.size w w' := by
  obtain ⟨a, b, c, hc⟩ : ∃ a b c, Hid (chk insR M.pr = (a, b, c)) := ⟨_, _, _, rfl⟩
  have hb := boxed w (objP M)
  have hcall := rcheck_any M _ (hl.later hb) a b c hc
  have hv : Hid (decide (a = 0) = r) := by rw [← hr.out, hc.out]; rfl
  clear hl hr hc
  go_enter Tryd.func12, Tryd.ntmps12
  by_cases h0 : a = 0
  · have hv2 : Hid (r = true) := hv.out.symm.trans (decide_eq_true h0)
    go_wp2_with (go_at_call 23; (with_reducible refine hcall.mono ?_); rintro e w2 ⟨rfl, hb2⟩)
    go_ret
    exact ⟨ret_b (by rw [hv2.out]), bthen (bthen hb hb2) (boxed _ _)⟩
  · have hv2 : Hid (r = false) := hv.out.symm.trans (decide_eq_false h0)
    go_wp2_with (go_at_call 23; (with_reducible refine hcall.mono ?_); rintro e w2 ⟨rfl, hb2⟩)
    go_ret
    exact ⟨ret_b (by rw [hv2.out]; simp [h0]), bthen (bthen hb hb2) (boxed _ _)⟩
end Go.Proofs.YtaghfahhfockkaaDoor.pg
