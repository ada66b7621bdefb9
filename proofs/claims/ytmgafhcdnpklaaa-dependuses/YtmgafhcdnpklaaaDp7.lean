/- What every statement of package depend asks first. -/
import Derived.Test.YtmgafhcdnpklaaaDp6
namespace Go.Proofs.Ytmgafhcdnpklaaa.pg
open Go.ChangeShapes Go.WideShapes Go.ChangeAt Go.RowKit
set_option linter.unusedVariables false
set_option linter.unusedSimpArgs false
set_option maxRecDepth 100000
attribute [local go_sem ↓] Go.wp_at_zero Go.wp_at_succ
/-- The event of noughts. -/
abbrev ev0 : Ev := ⟨0, 0, 0, 0, 0, 0, 0, ⟨0, 0, false⟩, ⟨0, 0, false⟩, ⟨0, 0, false⟩, ⟨0, 0, false⟩, ⟨0, 0, false⟩, ⟨0, 0, false⟩, 0⟩
theorem rows_acc {w : World} {g : Nat} {x : Acc} (h : BoxA w g x) : Rows w 3 (some ⟨g, 0, none⟩) 1 ([x].map Acc.cells) := by
  refine ⟨by simp, by omega, by simp, .inr ⟨g, 0, rfl, World.block_lt_of_cell? _ _ h.1, fun i row hi => ?_⟩⟩
  match i with
  | 0 =>
    simp at hi
    subst hi
    refine ⟨rfl, fun j u hj => ?_⟩
    match j with
    | 0 => simp [Acc.cells] at hj; subst hj; exact h.1
    | 1 => simp [Acc.cells] at hj; subst hj; exact h.2.1
    | 2 => simp [Acc.cells] at hj; subst hj; exact h.2.2
    | j + 3 => simp [Acc.cells] at hj
  | i + 1 => simp at hi
set_option maxHeartbeats 1000000 in
theorem speaks_any (w : World) : Calls Try.prog 9 #[] w fun e w' => e = .returned (.bool true) ∧ Below w.heap.size w w' := by
  have hb := boxed2 w (objA ⟨1, 0, false⟩) (objA ⟨1, 0, true⟩)
  have bA := (boxA_new w ⟨1, 0, false⟩).later (boxed (w.alloc (objA ⟨1, 0, false⟩)) (objA ⟨1, 0, true⟩))
  have bB := boxA_new (w.alloc (objA ⟨1, 0, false⟩)) ⟨1, 0, true⟩
  rw [World.size_alloc] at bB
  have cK : ∀ (wx : World), Calls Try.prog 5 #[.slice (some ⟨wx.heap.size, 0, none⟩) 1 1] (wx.alloc (objE ev0)) _ := fun wx => check_few ev0 _ _ (by decide) (boxE_new wx ev0).range
  go_enter Try.func9, Try.ntmps9
  go_wp2_with fail
  generalize (w.alloc (objA ⟨1, 0, false⟩)).alloc (objA ⟨1, 0, true⟩) = W at *
  have hbH : Hid (Below w.heap.size w W) := hb
  generalize w.heap.size + 1 = B0 at *
  have c1 : ∀ wx, Below W.heap.size W wx → Calls Try.prog 22 #[.slice (some ⟨w.heap.size, 0, none⟩) 1 1, .slice (some ⟨B0, 0, none⟩) 1 1] wx _ := fun wx h => clash_short [⟨1, 0, false⟩] [⟨1, 0, true⟩] _ _ _ _ wx (rows_acc (bA.later h)) (rows_acc (bB.later h)) (.inl (by decide)) true rfl
  have c2 : ∀ wx, Below W.heap.size W wx → Calls Try.prog 22 #[.slice (some ⟨B0, 0, none⟩) 1 1, .slice (some ⟨B0, 0, none⟩) 1 1] wx _ := fun wx h => clash_short [⟨1, 0, true⟩] [⟨1, 0, true⟩] _ _ _ _ wx (rows_acc (bB.later h)) (rows_acc (bB.later h)) (.inl (by decide)) true rfl
  have c3 : ∀ wx, Below W.heap.size W wx → Calls Try.prog 22 #[.slice (some ⟨w.heap.size, 0, none⟩) 1 1, .slice (some ⟨w.heap.size, 0, none⟩) 1 1] wx _ := fun wx h => clash_short [⟨1, 0, false⟩] [⟨1, 0, false⟩] _ _ _ _ wx (rows_acc (bA.later h)) (rows_acc (bA.later h)) (.inl (by decide)) false rfl
  clear bA bB hb
  go_wp2_with (first
    | (go_at_call 22; (with_reducible refine (c1 _ (Below.refl _ _)).mono ?_); rintro e w1 ⟨rfl, hb1⟩)
    | (go_at_call 22; (with_reducible refine (c2 _ hb1).mono ?_); rintro e w2 ⟨rfl, hb2⟩; (have hB2 : Hid (Below W.heap.size W w2) := bthen hb1 hb2))
    | (go_at_call 22; (with_reducible refine (c3 _ hB2.out).mono ?_); rintro e w3 ⟨rfl, hb3⟩; (have hB3 : Hid (Below W.heap.size W w3) := bthen hB2.out hb3))
    | (go_at_call 5; (with_reducible refine (cK _).mono ?_); rintro e w4 ⟨rfl, hb4⟩; (have hB4 : Hid (Below W.heap.size W w4) := bthen (bthen hB3.out (boxed _ _)) hb4)))
  go_ret
  exact ⟨rfl, bthen hbH.out hB4.out⟩
end Go.Proofs.Ytmgafhcdnpklaaa.pg
