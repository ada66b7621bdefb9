/- What is no event of a trace: Check of it. -/
import Derived.Test.YtkhhkgfaakgdfaaM9
namespace Go.Proofs.Ytkhhkgfaakgdfaa.pg
open Go.ChangeShapes Go.WideShapes Go.ChangeAt Go.RowKit
set_option linter.unusedVariables false
set_option linter.unusedSimpArgs false
set_option maxRecDepth 100000
attribute [local go_sem ↓] Go.wp_at_zero Go.wp_at_succ
theorem ev_one (x : Ev) : x.cells.toArray.all (·.oneCell') = true := by simp [Ev.cells, Value.oneCell']
theorem right_few (x : Ev) (w : World) (hn : x.n < 1) : Calls Try.prog 57 #[x.val] w fun e w' => e = .returned (.bool false) ∧ Below w.heap.size w w' := by
  by_cases h0 : x.go < 0
  · go_enter Try.func57, Try.ntmps57
    go_wp2
    go_ret
    exact ⟨rfl, boxed _ _⟩
  · by_cases h1 : 6 ≤ x.go
    all_goals
      go_enter Try.func57, Try.ntmps57
      go_wp2
      go_ret
      exact ⟨rfl, boxed _ _⟩
set_option maxHeartbeats 1000000 in
theorem check_few (x : Ev) (w : World) (g : Nat) (hn : x.n < 1) (hr : w.rangeAt g 0 x.cells) : Calls Try.prog 35 #[.slice (some ⟨g, 0, none⟩) 1 1] w fun e w' => e = .returned (.int .i64 7) ∧ Below w.heap.size w w' := by
  have hrH : Hid (w.rangeAt g 0 x.cells) := hr
  have hu := Try.underlying66
  have hi : (Try.prog.info? 66).map (·.size) = some x.cells.length := by kernel_rfl
  have huH : Hid (Try.prog.underlying 66 = _) := hu
  have hiH : Hid ((Try.prog.info? 66).map (·.size) = some x.cells.length) := hi
  have c1 : ∀ wx, Calls Try.prog 57 #[.agg x.cells.toArray] wx _ := fun wx => right_few x wx hn
  clear hr hu hi
  go_enter Try.func35, Try.ntmps35
  go_wp2
  go_loopw [10] (fun u wr => u = .int .i64 0 ∧ wr = w) (fun _ _ => 0)
  case atStart => exact ⟨rfl, rfl⟩
  case round =>
    obtain ⟨rfl, rfl⟩ := hrel
    go_wp2_with (first
      | (refine wpList_load_mid rfl 66 _ rfl g 0 rfl x.cells _ hrH.out huH.out rfl hiH.out ?_)
      | (refine wpList_store_new rfl 66 _ _ rfl rfl _ x.cells.toArray rfl (by kernel_rfl) rfl (ev_one x) ?_)
      | (refine wpList_load_mid rfl 66 _ rfl wr.heap.size 0 rfl x.cells _ (boxE_new wr x).range huH.out rfl hiH.out ?_)
      | (go_at_call 57; (with_reducible refine (c1 _).mono ?_); rintro e w1 ⟨rfl, hb1⟩))
    go_ret
    exact ⟨rfl, bthen (boxed _ _) hb1⟩
end Go.Proofs.Ytkhhkgfaakgdfaa.pg
/- What every statement of package depend asks first. -/
namespace Go.Proofs.Ytkhhkgfaakgdfaa.pg
open Go.ChangeShapes Go.WideShapes Go.ChangeAt Go.RowKit
set_option linter.unusedVariables false
set_option linter.unusedSimpArgs false
set_option maxRecDepth 100000
attribute [local go_sem ↓] Go.wp_at_zero Go.wp_at_succ
/-- The event of noughts. -/
abbrev ev0 : Ev := ⟨0, 0, 0, 0, 0, 0, 0, ⟨0, 0, false⟩, ⟨0, 0, false⟩, ⟨0, 0, false⟩, ⟨0, 0, false⟩, ⟨0, 0, false⟩, ⟨0, 0, false⟩, 0⟩
theorem rows_acc {w : World} {g : Nat} {x : Acc} (h : BoxA w g x) : Rows w 3 (some ⟨g, 0, none⟩) 1 ([x].map Acc.cells) := by
  refine ⟨by simp, by omega, by simp, .inr ⟨g, 0, rfl, World.block_lt_of_cell? _ _ h.1, fun i row hi => ?_⟩⟩
  match i with
  | 0 =>
    simp at hi
    subst hi
    refine ⟨rfl, fun j u hj => ?_⟩
    match j with
    | 0 => simp [Acc.cells] at hj; subst hj; exact h.1
    | 1 => simp [Acc.cells] at hj; subst hj; exact h.2.1
    | 2 => simp [Acc.cells] at hj; subst hj; exact h.2.2
    | j + 3 => simp [Acc.cells] at hj
  | i + 1 => simp at hi
set_option maxHeartbeats 1000000 in
theorem speaks_any (w : World) : Calls Try.prog 38 #[] w fun e w' => e = .returned (.bool true) ∧ Below w.heap.size w w' := by
  have hb := boxed2 w (objA ⟨1, 0, false⟩) (objA ⟨1, 0, true⟩)
  have bA := (boxA_new w ⟨1, 0, false⟩).later (boxed (w.alloc (objA ⟨1, 0, false⟩)) (objA ⟨1, 0, true⟩))
  have bB := boxA_new (w.alloc (objA ⟨1, 0, false⟩)) ⟨1, 0, true⟩
  rw [World.size_alloc] at bB
  have cK : ∀ (wx : World), Calls Try.prog 35 #[.slice (some ⟨wx.heap.size, 0, none⟩) 1 1] (wx.alloc (objE ev0)) _ := fun wx => check_few ev0 _ _ (by decide) (boxE_new wx ev0).range
  go_enter Try.func38, Try.ntmps38
  go_wp2_with fail
  generalize (w.alloc (objA ⟨1, 0, false⟩)).alloc (objA ⟨1, 0, true⟩) = W at *
  have hbH : Hid (Below w.heap.size w W) := hb
  generalize w.heap.size + 1 = B0 at *
  have c1 : ∀ wx, Below W.heap.size W wx → Calls Try.prog 62 #[.slice (some ⟨w.heap.size, 0, none⟩) 1 1, .slice (some ⟨B0, 0, none⟩) 1 1] wx _ := fun wx h => clash_short [⟨1, 0, false⟩] [⟨1, 0, true⟩] _ _ _ _ wx (rows_acc (bA.later h)) (rows_acc (bB.later h)) (.inl (by decide)) true rfl
  have c2 : ∀ wx, Below W.heap.size W wx → Calls Try.prog 62 #[.slice (some ⟨B0, 0, none⟩) 1 1, .slice (some ⟨B0, 0, none⟩) 1 1] wx _ := fun wx h => clash_short [⟨1, 0, true⟩] [⟨1, 0, true⟩] _ _ _ _ wx (rows_acc (bB.later h)) (rows_acc (bB.later h)) (.inl (by decide)) true rfl
  have c3 : ∀ wx, Below W.heap.size W wx → Calls Try.prog 62 #[.slice (some ⟨w.heap.size, 0, none⟩) 1 1, .slice (some ⟨w.heap.size, 0, none⟩) 1 1] wx _ := fun wx h => clash_short [⟨1, 0, false⟩] [⟨1, 0, false⟩] _ _ _ _ wx (rows_acc (bA.later h)) (rows_acc (bA.later h)) (.inl (by decide)) false rfl
  clear bA bB hb
  go_wp2_with (first
    | (go_at_call 62; (with_reducible refine (c1 _ (Below.refl _ _)).mono ?_); rintro e w1 ⟨rfl, hb1⟩)
    | (go_at_call 62; (with_reducible refine (c2 _ hb1).mono ?_); rintro e w2 ⟨rfl, hb2⟩; (have hB2 : Hid (Below W.heap.size W w2) := bthen hb1 hb2))
    | (go_at_call 62; (with_reducible refine (c3 _ hB2.out).mono ?_); rintro e w3 ⟨rfl, hb3⟩; (have hB3 : Hid (Below W.heap.size W w3) := bthen hB2.out hb3))
    | (go_at_call 35; (with_reducible refine (cK _).mono ?_); rintro e w4 ⟨rfl, hb4⟩; (have hB4 : Hid (Below W.heap.size W w4) := bthen (bthen hB3.out (boxed _ _)) hb4)))
  go_ret
  exact ⟨rfl, bthen hbH.out hB4.out⟩
end Go.Proofs.Ytkhhkgfaakgdfaa.pg
