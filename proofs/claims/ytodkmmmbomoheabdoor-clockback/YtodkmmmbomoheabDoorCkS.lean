/- The little clock that every statement on clocks asks of. -/
import Derived.Test.YtodkmmmbomoheabDoorCk9
namespace Go.Proofs.YtodkmmmbomoheabDoor.pg
open Go.ChangeShapes Go.WideShapes Go.ChangeAt Go.RowKit
set_option linter.unusedVariables false
set_option linter.unusedSimpArgs false
set_option maxRecDepth 100000
attribute [local go_sem ↓] Go.wp_at_zero Go.wp_at_succ
abbrev tick2 : Ck := ⟨0, 0, 1, 0, 0, 0⟩
theorem tick2_is : tickP zeroK 2 tick2 0 := .inr ⟨by rw [Ck.ok_iff]; simp [okC], 2, by omega, rfl, 0, rfl, .inr ⟨by omega, rfl, rfl⟩⟩
theorem tick2_text : textK tick2 = ⟨#[60, 48, 44, 48, 44, 49, 44, 48, 44, 48, 44, 48, 62]⟩ := by
  have h0 : (numT 0).data.toList = [48] := by unfold numT Lib.itoa; rw [if_neg (by omega), Lib.decDigits]; rfl
  have h1 : (numT 1).data.toList = [49] := by unfold numT Lib.itoa; rw [if_neg (by omega), Lib.decDigits]; rfl
  unfold textK midT Ck.list
  simp only [List.map_cons, List.map_nil, h0, h1]
  rfl
theorem tick2_ok : tick2.ok := by rw [Ck.ok_iff]; simp [okC]
set_option maxHeartbeats 1000000 in
theorem small_any (w : World) (hT : Tab w) : Calls Tryd.prog 6 #[] w fun e w' => e = .returned (.bool true) ∧ Below w.heap.size w w' := by
  have c1 : ∀ wx, Calls Tryd.prog 12 #[zeroK.val, .int .i64 2] wx fun e w' => e = .returned (.tuple #[tick2.val, .int .i64 0]) ∧ Below wx.heap.size wx w' := fun wx => tick_any zeroK 2 tick2 0 tick2_is wx
  have c2 : ∀ wx, Tab wx → Calls Tryd.prog 4 #[tick2.val] wx fun e w' => e = .returned (.tuple #[.string ⟨#[60, 48, 44, 48, 44, 49, 44, 48, 44, 48, 44, 48, 62]⟩, .int .i64 0]) ∧ Below wx.heap.size wx w' := fun wx h => by have := text_any tick2 tick2_ok wx h; rwa [tick2_text] at this
  have c3 : ∀ wx, Calls Tryd.prog 8 #[tick2.val] wx fun e w' => e = .returned (.int .i64 0) ∧ Below wx.heap.size wx w' := fun wx => check_ok tick2 tick2_ok wx
  have hTH : Hid (Tab w) := hT
  clear hT
  go_enter Tryd.func6, Tryd.ntmps6
  go_wp2_with (first
    | (go_at_call 12; (with_reducible refine (c1 _).mono ?_); rintro e w1 ⟨rfl, hb1⟩; (have hB1 : Hid (Below w.heap.size w (w1.alloc (objK tick2))) := bthen hb1 (boxed _ _)); (have hx1 := inB_new w1 tick2); clear hb1)
    | (go_at_call 4; (with_reducible refine (c2 _ (hTH.out.later hB1.out)).mono ?_); rintro e w2 ⟨rfl, hb2⟩; (have hB2 : Hid (Below w.heap.size w w2) := bthen hB1.out hb2); (obtain ⟨q0, q1, q2, q3, q4, q5⟩ := (hx1.later hb2).box); clear hb2)
    | (go_at_call 8; (with_reducible refine (c3 _).mono ?_); rintro e w3 ⟨rfl, hb3⟩; (have hB3 : Hid (Below w.heap.size w w3) := bthen hB2.out hb3); clear hb3))
  go_ret
  exact ⟨rfl, hB3.out⟩
end Go.Proofs.YtodkmmmbomoheabDoor.pg
