/- Whether two events depend on each other, by the document's own. -/
import Derived.Test.YtkadlopcomjonaaDoorM8
import Derived.Test.YtkadlopcomjonaaDoorM4
namespace Go.Proofs.YtkadlopcomjonaaDoor.pg
open Go.ChangeShapes Go.WideShapes Go.ChangeAt Go.RowKit
set_option linter.unusedVariables false
set_option linter.unusedSimpArgs false
set_option maxRecDepth 100000
attribute [local go_sem ↓] Go.wp_at_zero Go.wp_at_succ
theorem BoxE.range {w : World} {B : Nat} {x : Ev} (h : BoxE w B x) : w.rangeAt B 0 x.cells := fun j v hv => by rw [Nat.zero_add]; exact h.at j v hv
theorem keepE2 {W w' : World} {A B : Nat} {x y : Ev} (h1 : BoxE W A x) (h2 : BoxE W B y) (hb : Below W.heap.size W w') : w'.rangeAt A 0 x.cells ∧ w'.rangeAt B 0 y.cells ∧ Below W.heap.size W w' :=
  ⟨(h1.later hb).range, (h2.later hb).range, hb⟩
set_option maxHeartbeats 1000000 in
theorem rdependent_any (a b : Ev) (w : World) (R : Bool) (hR : Hid (R = clash a.of b.of)) :
    Calls Tryd.prog 39 #[a.val, b.val] w fun e w' => e = .returned (.bool R) ∧ Below w.heap.size w w' := by
  have hb := boxed2 w (objE a) (objE b)
  have bA := (boxE_new w a).later (boxed (w.alloc (objE a)) (objE b))
  have bB := boxE_new (w.alloc (objE a)) b
  rw [World.size_alloc] at bB
  have cO : ∀ (x : Ev) wx, Calls Tryd.prog 49 #[.agg x.cells.toArray] wx _ := fun x wx => of_any x wx
  have cC : ∀ va vc ua uc wx, Rows wx 3 va vc (a.of.map Acc.cells) → Rows wx 3 ua uc (b.of.map Acc.cells) → Calls Tryd.prog 48 #[.slice va a.of.length vc, .slice ua b.of.length uc] wx _ := fun va vc ua uc wx h1 h2 => rclash_any a.of b.of _ _ _ _ wx h1 h2 R hR
  have hu := Tryd.underlying42
  have hi : (Tryd.prog.info? 42).map (·.size) = some a.cells.length := by kernel_rfl
  have hi2 : (Tryd.prog.info? 42).map (·.size) = some b.cells.length := by kernel_rfl
  go_enter Tryd.func39, Tryd.ntmps39
  go_wp2_with fail
  generalize (w.alloc (objE a)).alloc (objE b) = W at *
  generalize w.heap.size + 1 = B0 at *
  have hbH : Hid (Below w.heap.size w W) := hb
  have KH : Hid (∀ w', Below W.heap.size W w' → _) := fun w' h' => keepE2 bA bB h'
  clear hb bA bB
  refine wp_region_held_drew (S := fun w' => Below W.heap.size W w') (by kernel_rfl) (bey_drew W) (fun hH => ?_)
  refine reg_load (i := 0) rfl (by kernel_rfl) (by kernel_rfl) (by kernel_rfl) (fun _ _ _ _ h => h) rfl 42 _ rfl w.heap.size 0 rfl a.cells _ (fun w' h' => (KH.out w' h').1) hu rfl hi hH ?_
  simp only [Act.put, List.getElem_toArray, List.getElem_cons_succ, List.getElem_cons_zero, List.setIfInBounds_toArray, List.set_cons_zero, List.set_cons_succ]
  refine reg_load (i := 2) rfl (by kernel_rfl) (by kernel_rfl) (by kernel_rfl) (fun _ _ _ _ h => h) rfl 42 _ rfl B0 0 rfl b.cells _ (fun w' h' => (KH.out w' h').2.1) hu rfl hi2 hH ?_
  simp only [Act.put, List.getElem_toArray, List.getElem_cons_succ, List.getElem_cons_zero, List.setIfInBounds_toArray, List.set_cons_zero, List.set_cons_succ]
  refine reg_call1 (i := 1) (by kernel_rfl) rfl rfl 49 _ _ rfl (.agg a.cells.toArray) rfl (cf_fn Tryd.func49 (by kernel_rfl) (by kernel_rfl) _ _) _ (cO a _) ?_
  rintro e w1 ⟨va, vc, rfl, ho1, hb1⟩
  refine ⟨_, rfl, bthen hH hb1, fun hH1 => ?_⟩
  have hr1 : Rows w1 3 va vc (a.of.map Acc.cells) := own_rows ho1 (len3a _)
  simp only [Act.put, List.getElem_toArray, List.getElem_cons_succ, List.getElem_cons_zero, List.setIfInBounds_toArray, List.set_cons_zero, List.set_cons_succ]
  refine reg_call1 (i := 3) (by kernel_rfl) rfl rfl 49 _ _ rfl (.agg b.cells.toArray) rfl (cf_fn Tryd.func49 (by kernel_rfl) (by kernel_rfl) _ _) _ (cO b _) ?_
  rintro e w2 ⟨ua, uc, rfl, ho2, hb2⟩
  refine ⟨_, rfl, bthen hH1 hb2, fun hH2 => ?_⟩
  have hr2 : Rows w2 3 ua uc (b.of.map Acc.cells) := own_rows ho2 (len3a _)
  have hr3 : Rows w2 3 va vc (a.of.map Acc.cells) := hr1.later hb2
  simp only [Act.put, List.getElem_toArray, List.getElem_cons_succ, List.getElem_cons_zero, List.setIfInBounds_toArray, List.set_cons_zero, List.set_cons_succ]
  refine reg_call2 (i := 4) (by kernel_rfl) rfl rfl 48 _ _ _ _ rfl (.slice va a.of.length vc) (.slice ua b.of.length uc) rfl rfl (cf_fn Tryd.func48 (by kernel_rfl) (by kernel_rfl) _ _) _ (cC _ _ _ _ _ hr3 hr2) ?_
  rintro e w3 ⟨rfl, n3, rfl⟩
  refine ⟨_, rfl, below_drewN hH2 n3, fun hH3 => ?_⟩
  simp only [Act.put, List.getElem_toArray, List.getElem_cons_succ, List.getElem_cons_zero, List.setIfInBounds_toArray, List.set_cons_zero, List.set_cons_succ]
  refine reg_move (i := 5) rfl (by kernel_rfl) (by kernel_rfl) (by kernel_rfl) (fun _ _ _ _ h => h) rfl _ (fun _ => rfl) hH3 ?_
  simp only [Act.put, List.getElem_toArray, List.getElem_cons_succ, List.getElem_cons_zero, List.setIfInBounds_toArray, List.set_cons_zero, List.set_cons_succ]
  refine wpAnyH_done (by kernel_rfl) ?_ _
  go_wp2
  go_ret
  exact ⟨rfl, bthen hbH.out hH3⟩
end Go.Proofs.YtkadlopcomjonaaDoor.pg
/- What is no event of a trace: Check of it. -/
namespace Go.Proofs.YtkadlopcomjonaaDoor.pg
open Go.ChangeShapes Go.WideShapes Go.ChangeAt Go.RowKit
set_option linter.unusedVariables false
set_option linter.unusedSimpArgs false
set_option maxRecDepth 100000
attribute [local go_sem ↓] Go.wp_at_zero Go.wp_at_succ
theorem ev_one (x : Ev) : x.cells.toArray.all (·.oneCell') = true := by simp [Ev.cells, Value.oneCell']
theorem right_few (x : Ev) (w : World) (hn : x.n < 1) : Calls Tryd.prog 65 #[x.val] w fun e w' => e = .returned (.bool false) ∧ Below w.heap.size w w' := by
  by_cases h0 : x.go < 0
  · go_enter Tryd.func65, Tryd.ntmps65
    go_wp2
    go_ret
    exact ⟨rfl, boxed _ _⟩
  · by_cases h1 : 6 ≤ x.go
    all_goals
      go_enter Tryd.func65, Tryd.ntmps65
      go_wp2
      go_ret
      exact ⟨rfl, boxed _ _⟩
set_option maxHeartbeats 1000000 in
theorem check_few (x : Ev) (w : World) (g : Nat) (hn : x.n < 1) (hr : w.rangeAt g 0 x.cells) : Calls Tryd.prog 61 #[.slice (some ⟨g, 0, none⟩) 1 1] w fun e w' => e = .returned (.int .i64 7) ∧ Below w.heap.size w w' := by
  have hrH : Hid (w.rangeAt g 0 x.cells) := hr
  have hu := Tryd.underlying42
  have hi : (Tryd.prog.info? 42).map (·.size) = some x.cells.length := by kernel_rfl
  have huH : Hid (Tryd.prog.underlying 42 = _) := hu
  have hiH : Hid ((Tryd.prog.info? 42).map (·.size) = some x.cells.length) := hi
  have c1 : ∀ wx, Calls Tryd.prog 65 #[.agg x.cells.toArray] wx _ := fun wx => right_few x wx hn
  clear hr hu hi
  go_enter Tryd.func61, Tryd.ntmps61
  go_wp2
  go_loopw [10] (fun u wr => u = .int .i64 0 ∧ wr = w) (fun _ _ => 0)
  case atStart => exact ⟨rfl, rfl⟩
  case round =>
    obtain ⟨rfl, rfl⟩ := hrel
    go_wp2_with (first
      | (refine wpList_load_mid rfl 42 _ rfl g 0 rfl x.cells _ hrH.out huH.out rfl hiH.out ?_)
      | (refine wpList_store_new rfl 42 _ _ rfl rfl _ x.cells.toArray rfl (by kernel_rfl) rfl (ev_one x) ?_)
      | (refine wpList_load_mid rfl 42 _ rfl wr.heap.size 0 rfl x.cells _ (boxE_new wr x).range huH.out rfl hiH.out ?_)
      | (go_at_call 65; (with_reducible refine (c1 _).mono ?_); rintro e w1 ⟨rfl, hb1⟩))
    go_ret
    exact ⟨rfl, bthen (boxed _ _) hb1⟩
end Go.Proofs.YtkadlopcomjonaaDoor.pg
/- What every statement of package depend asks first. -/
namespace Go.Proofs.YtkadlopcomjonaaDoor.pg
open Go.ChangeShapes Go.WideShapes Go.ChangeAt Go.RowKit
set_option linter.unusedVariables false
set_option linter.unusedSimpArgs false
set_option maxRecDepth 100000
attribute [local go_sem ↓] Go.wp_at_zero Go.wp_at_succ
/-- The event of noughts. -/
abbrev ev0 : Ev := ⟨0, 0, 0, 0, 0, 0, 0, ⟨0, 0, false⟩, ⟨0, 0, false⟩, ⟨0, 0, false⟩, ⟨0, 0, false⟩, ⟨0, 0, false⟩, ⟨0, 0, false⟩, 0⟩
theorem rows_acc {w : World} {g : Nat} {x : Acc} (h : BoxA w g x) : Rows w 3 (some ⟨g, 0, none⟩) 1 ([x].map Acc.cells) := by
  refine ⟨by simp, by omega, by simp, .inr ⟨g, 0, rfl, World.block_lt_of_cell? _ _ h.1, fun i row hi => ?_⟩⟩
  match i with
  | 0 =>
    simp at hi
    subst hi
    refine ⟨rfl, fun j u hj => ?_⟩
    match j with
    | 0 => simp [Acc.cells] at hj; subst hj; exact h.1
    | 1 => simp [Acc.cells] at hj; subst hj; exact h.2.1
    | 2 => simp [Acc.cells] at hj; subst hj; exact h.2.2
    | j + 3 => simp [Acc.cells] at hj
  | i + 1 => simp at hi
end Go.Proofs.YtkadlopcomjonaaDoor.pg
