/- below and Cmp of package clock; how two clocks stand. -/
import Derived.Test.YtodkmmmbomoheaaDoorCk4
namespace Go.Proofs.YtodkmmmbomoheaaDoor.pg
open Go.ChangeShapes Go.WideShapes Go.ChangeAt Go.RowKit
set_option linter.unusedVariables false
set_option linter.unusedSimpArgs false
set_option maxRecDepth 100000
attribute [local go_sem ↓] Go.wp_at_zero Go.wp_at_succ
/-- Not above. -/
def leK (x y : Ck) : Bool := decide (x.c0 ≤ y.c0) && decide (x.c1 ≤ y.c1) && decide (x.c2 ≤ y.c2) && decide (x.c3 ≤ y.c3) && decide (x.c4 ≤ y.c4) && decide (x.c5 ≤ y.c5)
theorem leK_iff (x y : Ck) : leK x y = true ↔ x.c0 ≤ y.c0 ∧ x.c1 ≤ y.c1 ∧ x.c2 ≤ y.c2 ∧ x.c3 ≤ y.c3 ∧ x.c4 ≤ y.c4 ∧ x.c5 ≤ y.c5 := by
  simp [leK, Bool.and_eq_true, and_assoc]
theorem max_eq_r (a b : Int) : (max a b == b) = decide (a ≤ b) := by
  rw [Bool.eq_iff_iff, beq_iff_eq, decide_eq_true_iff, Int.max_def]
  split <;> omega
theorem join_le (x y : Ck) : eqK (x.join y) y = leK x y := by
  simp only [eqK, leK, max_eq_r]
def belowK (x y : Ck) : Bool := !eqK x y && leK x y
theorem boxK_cls {W : World} {B : Nat} {x : Ck} (h : BoxK W B x) : (∀ s : Cls (Bey W), s.w.cell? ⟨B, 0, none⟩ = some (.int .i64 x.c0)) ∧ (∀ s : Cls (Bey W), s.w.cell? ⟨B, 1, none⟩ = some (.int .i64 x.c1)) ∧ (∀ s : Cls (Bey W), s.w.cell? ⟨B, 2, none⟩ = some (.int .i64 x.c2)) ∧ (∀ s : Cls (Bey W), s.w.cell? ⟨B, 3, none⟩ = some (.int .i64 x.c3)) ∧ (∀ s : Cls (Bey W), s.w.cell? ⟨B, 4, none⟩ = some (.int .i64 x.c4)) ∧ (∀ s : Cls (Bey W), s.w.cell? ⟨B, 5, none⟩ = some (.int .i64 x.c5)) :=
  ⟨fun s => (h.later s.h).1, fun s => (h.later s.h).2.1, fun s => (h.later s.h).2.2.1, fun s => (h.later s.h).2.2.2.1, fun s => (h.later s.h).2.2.2.2.1, fun s => (h.later s.h).2.2.2.2.2⟩
set_option maxHeartbeats 1000000 in
theorem below_any (x y : Ck) (w : World) (R : Bool) (hR : Hid (R = belowK x y)) : Calls Tryd.prog 31 #[x.val, y.val] w fun e w' => e = .returned (.bool R) ∧ Below w.heap.size w w' := by
  have hb := boxed2 w (objK x) (objK y)
  obtain ⟨bx, bY⟩ := boxes2 w x y
  have bxH : Hid _ := bx.box
  have byH : Hid _ := bY.box
  clear bx bY
  by_cases e : eqK x y = true
  · have hne : ∀ wx, (binOp .neq 23 x.val y.val).run Tryd.prog wx = .ok (.bool false) wx := fun wx => by rw [run_neK, e]; rfl
    have hRR : Hid (R = false) := by show _ = _; rw [hR.out, belowK, e]; rfl
    clear e hR
    go_enter Tryd.func31, Tryd.ntmps31
    go_wp2_with fail
    generalize (w.alloc (objK x)).alloc (objK y) = W at *
    generalize w.heap.size + 1 = B1 at *
    have hbH : Hid (Below w.heap.size w W) := hb
    clear hb
    obtain ⟨d0, d1, d2, d3, d4, d5⟩ := boxK_cls bxH.out
    obtain ⟨f0, f1, f2, f3, f4, f5⟩ := boxK_cls byH.out
    have hne2 := bey_some W
    refine wp_region_cls (Bey W) (by kernel_rfl) (by kernel_rfl) (bey_drew W) ?_
    repeat (go_big_quiet_step (fail))
    refine wpQuiet_nil ?_
    intro _ hw'
    obtain ⟨sq, hw''⟩ := hw'
    subst hw''
    go_wp2
    go_ret
    exact ⟨by rw [hRR.out]; rfl, bthen hbH.out sq.h⟩
  · have e2 : eqK x y = false := by simpa using e
    have hne : ∀ wx, (binOp .neq 23 x.val y.val).run Tryd.prog wx = .ok (.bool true) wx := fun wx => by rw [run_neK, e2]; rfl
    have heq : ∀ wx, (binOp .eql 23 (x.join y).val y.val).run Tryd.prog wx = .ok (.bool R) wx := fun wx => by rw [run_eqK, join_le, hR.out, belowK, e2]; rfl
    have c1 : ∀ wx, Calls Tryd.prog 30 #[x.val, y.val] wx _ := fun wx => join_in x y wx
    clear e e2 hR
    go_enter Tryd.func31, Tryd.ntmps31
    go_wp2_with fail
    generalize (w.alloc (objK x)).alloc (objK y) = W at *
    generalize w.heap.size + 1 = B1 at *
    have hbH : Hid (Below w.heap.size w W) := hb
    clear hb
    obtain ⟨d0, d1, d2, d3, d4, d5⟩ := boxK_cls bxH.out
    obtain ⟨f0, f1, f2, f3, f4, f5⟩ := boxK_cls byH.out
    have hne2 := bey_some W
    refine wp_region_cls (Bey W) (by kernel_rfl) (by kernel_rfl) (bey_drew W) ?_
    repeat (go_big_quiet_step ((go_at_call 30; exact calls_bey (c1 _))))
    refine wpQuiet_nil ?_
    intro _ hw'
    obtain ⟨sq, hw''⟩ := hw'
    subst hw''
    go_wp2
    go_ret
    exact ⟨rfl, bthen hbH.out sq.h⟩
/-- How two clocks stand. -/
def cmpK (x y : Ck) : Int := if eqK x y then 0 else if leK x y then -1 else if leK y x then 1 else 2
theorem eqK_comm (x y : Ck) : eqK x y = eqK y x := by
  rw [Bool.eq_iff_iff, eqK_iff, eqK_iff]; exact eq_comm
theorem cmpK_cases (x y : Ck) : (eqK x y = true ∧ cmpK x y = 0) ∨ (eqK x y = false ∧ leK x y = true ∧ cmpK x y = -1) ∨ (eqK x y = false ∧ leK x y = false ∧ leK y x = true ∧ cmpK x y = 1) ∨ (eqK x y = false ∧ leK x y = false ∧ leK y x = false ∧ cmpK x y = 2) := by
  unfold cmpK
  cases eqK x y <;> cases leK x y <;> cases leK y x <;> simp
/-- Two boxes, and the list of two clocks behind them. -/
theorem check2 (x y : Ck) (c : Int) (hc : errL [x, y] c) (b : Nat) (wx : World) (t : TypeId) (h : wx.heap[b]? = some (.cells #[.int .i64 x.c0, .int .i64 x.c1, .int .i64 x.c2, .int .i64 x.c3, .int .i64 x.c4, .int .i64 x.c5, .int .i64 y.c0, .int .i64 y.c1, .int .i64 y.c2, .int .i64 y.c3, .int .i64 y.c4, .int .i64 y.c5] t (0, 0))) : Calls Tryd.prog 29 #[.slice (some ⟨b, 0, none⟩) 2 2] wx fun e w' => e = .returned (.int .i64 c) ∧ Below wx.heap.size wx w' := checks_any [x, y] _ 2 wx (rows_two h) c hc
theorem cmp_bad (x y : Ck) (hxy : ¬ (x.ok ∧ y.ok)) (w : World) : Calls Tryd.prog 11 #[x.val, y.val] w fun e w' => e = .returned (.tuple #[.int .i64 0, .int .i64 1]) ∧ Below w.heap.size w w' := by
  have c1 := check2 x y 1 (two_bad hxy)
  clear hxy
  go_enter Tryd.func11, Tryd.ntmps11
  go_wp2_with (first
    | (go_at_call 29; (with_reducible refine (c1 _ _ _ (new3 _ _ _ _)).mono ?_); rintro e w1 ⟨rfl, hb1⟩; (have hB1 : Hid (Below w.heap.size w w1) := bthen (boxed3 _ _ _ _) hb1); clear hb1 c1))
  go_ret2
  exact ⟨rfl, hB1.out⟩
set_option maxHeartbeats 1000000 in
theorem cmp_any' (x y : Ck) (hx : x.ok) (hy : y.ok) (w : World) (R : Int) (hR : Hid (R = cmpK x y)) : Calls Tryd.prog 11 #[x.val, y.val] w fun e w' => e = .returned (.tuple #[.int .i64 R, .int .i64 0]) ∧ Below w.heap.size w w' := by
  have c1 := check2 x y 0 (two_ok hx hy)
  have bx : Hid _ := boxes2 w x y
  clear hx hy
  rcases cmpK_cases x y with ⟨h1, h2⟩ | ⟨h1, h2, h3⟩ | ⟨h1, h2, h3, h4⟩ | ⟨h1, h2, h3, h4⟩
  · have hRR : Hid (R = 0) := hR.out.trans h2
    have heq : ∀ wx, (binOp .eql 23 x.val y.val).run Tryd.prog wx = .ok (.bool true) wx := fun wx => by rw [run_eqK, h1]
    clear hR h1 h2
    go_enter Tryd.func11, Tryd.ntmps11
    go_wp2_with (first
      | (go_at_call 29; (with_reducible refine (c1 _ _ _ (new3 _ _ _ _)).mono ?_); rintro e w1 ⟨rfl, hb1⟩; (have hx2 := bx.out.1.later (bthen (boxed _ _) hb1)); (have hy2 := bx.out.2.later (bthen (boxed _ _) hb1)); (have hB1 : Hid (Below w.heap.size w w1) := bthen (boxed3 _ _ _ _) hb1); clear hb1 c1)
      | (refine wpList_load_row rfl 23 _ rfl w.heap.size rfl _ _ _ _ hx2 Tryd.underlying23 rfl infoK ?_)
      | (refine wpList_load_row rfl 23 _ rfl (w.heap.size + 1) rfl _ _ _ _ hy2 Tryd.underlying23 rfl infoK ?_))
    go_ret2
    exact ⟨by rw [hRR.out]; rfl, hB1.out⟩
  · have hRR : Hid (R = -1) := hR.out.trans h3
    have heq : ∀ wx, (binOp .eql 23 x.val y.val).run Tryd.prog wx = .ok (.bool false) wx := fun wx => by rw [run_eqK, h1]
    have c2 : ∀ wx, Calls Tryd.prog 31 #[x.val, y.val] wx _ := fun wx => below_any x y wx true (by show _ = _; simp [belowK, h1, h2])
    clear hR h1 h2 h3
    go_enter Tryd.func11, Tryd.ntmps11
    go_wp2_with (first
      | (go_at_call 29; (with_reducible refine (c1 _ _ _ (new3 _ _ _ _)).mono ?_); rintro e w1 ⟨rfl, hb1⟩; (have hx2 := bx.out.1.later (bthen (boxed _ _) hb1)); (have hy2 := bx.out.2.later (bthen (boxed _ _) hb1)); (have hB1 : Hid (Below w.heap.size w w1) := bthen (boxed3 _ _ _ _) hb1); clear hb1 c1)
      | (refine wpList_load_row rfl 23 _ rfl w.heap.size rfl _ _ _ _ hx2 Tryd.underlying23 rfl infoK ?_)
      | (refine wpList_load_row rfl 23 _ rfl (w.heap.size + 1) rfl _ _ _ _ hy2 Tryd.underlying23 rfl infoK ?_)
      | (go_at_call 31; (with_reducible refine (c2 _).mono ?_); rintro e w2 ⟨rfl, hb2⟩; (have hB2 : Hid (Below w.heap.size w w2) := bthen hB1.out hb2); clear hb2))
    go_ret2
    exact ⟨by rw [hRR.out]; rfl, hB2.out⟩
  · have hRR : Hid (R = 1) := hR.out.trans h4
    have heq : ∀ wx, (binOp .eql 23 x.val y.val).run Tryd.prog wx = .ok (.bool false) wx := fun wx => by rw [run_eqK, h1]
    have c2 : ∀ wx, Calls Tryd.prog 31 #[x.val, y.val] wx _ := fun wx => below_any x y wx false (by show _ = _; simp [belowK, h1, h2])
    have c3 : ∀ wx, Calls Tryd.prog 31 #[y.val, x.val] wx _ := fun wx => below_any y x wx true (by show _ = _; simp [belowK, eqK_comm y x, h1, h3])
    clear hR h1 h2 h3 h4
    go_enter Tryd.func11, Tryd.ntmps11
    go_wp2_with (first
      | (go_at_call 29; (with_reducible refine (c1 _ _ _ (new3 _ _ _ _)).mono ?_); rintro e w1 ⟨rfl, hb1⟩; (have hx2 := bx.out.1.later (bthen (boxed _ _) hb1)); (have hy2 := bx.out.2.later (bthen (boxed _ _) hb1)); (have hB1 : Hid (Below w.heap.size w w1) := bthen (boxed3 _ _ _ _) hb1); clear hb1 c1)
      | (refine wpList_load_row rfl 23 _ rfl w.heap.size rfl _ _ _ _ hx2 Tryd.underlying23 rfl infoK ?_)
      | (refine wpList_load_row rfl 23 _ rfl (w.heap.size + 1) rfl _ _ _ _ hy2 Tryd.underlying23 rfl infoK ?_)
      | (go_at_call 31; (with_reducible refine (c2 _).mono ?_); rintro e w2 ⟨rfl, hb2⟩; (have hx3 := hx2.later hb2); (have hy3 := hy2.later hb2); (have hB2 : Hid (Below w.heap.size w w2) := bthen hB1.out hb2); clear hb2 c2 hx2 hy2)
      | (refine wpList_load_row rfl 23 _ rfl w.heap.size rfl _ _ _ _ hx3 Tryd.underlying23 rfl infoK ?_)
      | (refine wpList_load_row rfl 23 _ rfl (w.heap.size + 1) rfl _ _ _ _ hy3 Tryd.underlying23 rfl infoK ?_)
      | (go_at_call 31; (with_reducible refine (c3 _).mono ?_); rintro e w3 ⟨rfl, hb3⟩; (have hB3 : Hid (Below w.heap.size w w3) := bthen hB2.out hb3); clear hb3))
    go_ret2
    exact ⟨by rw [hRR.out]; rfl, hB3.out⟩
  · have hRR : Hid (R = 2) := hR.out.trans h4
    have heq : ∀ wx, (binOp .eql 23 x.val y.val).run Tryd.prog wx = .ok (.bool false) wx := fun wx => by rw [run_eqK, h1]
    have c2 : ∀ wx, Calls Tryd.prog 31 #[x.val, y.val] wx _ := fun wx => below_any x y wx false (by show _ = _; simp [belowK, h1, h2])
    have c3 : ∀ wx, Calls Tryd.prog 31 #[y.val, x.val] wx _ := fun wx => below_any y x wx false (by show _ = _; simp [belowK, eqK_comm y x, h1, h3])
    clear hR h1 h2 h3 h4
    go_enter Tryd.func11, Tryd.ntmps11
    go_wp2_with (first
      | (go_at_call 29; (with_reducible refine (c1 _ _ _ (new3 _ _ _ _)).mono ?_); rintro e w1 ⟨rfl, hb1⟩; (have hx2 := bx.out.1.later (bthen (boxed _ _) hb1)); (have hy2 := bx.out.2.later (bthen (boxed _ _) hb1)); (have hB1 : Hid (Below w.heap.size w w1) := bthen (boxed3 _ _ _ _) hb1); clear hb1 c1)
      | (refine wpList_load_row rfl 23 _ rfl w.heap.size rfl _ _ _ _ hx2 Tryd.underlying23 rfl infoK ?_)
      | (refine wpList_load_row rfl 23 _ rfl (w.heap.size + 1) rfl _ _ _ _ hy2 Tryd.underlying23 rfl infoK ?_)
      | (go_at_call 31; (with_reducible refine (c2 _).mono ?_); rintro e w2 ⟨rfl, hb2⟩; (have hx3 := hx2.later hb2); (have hy3 := hy2.later hb2); (have hB2 : Hid (Below w.heap.size w w2) := bthen hB1.out hb2); clear hb2 c2 hx2 hy2)
      | (refine wpList_load_row rfl 23 _ rfl w.heap.size rfl _ _ _ _ hx3 Tryd.underlying23 rfl infoK ?_)
      | (refine wpList_load_row rfl 23 _ rfl (w.heap.size + 1) rfl _ _ _ _ hy3 Tryd.underlying23 rfl infoK ?_)
      | (go_at_call 31; (with_reducible refine (c3 _).mono ?_); rintro e w3 ⟨rfl, hb3⟩; (have hB3 : Hid (Below w.heap.size w w3) := bthen hB2.out hb3); clear hb3))
    go_ret2
    exact ⟨by rw [hRR.out]; rfl, hB3.out⟩
end Go.Proofs.YtodkmmmbomoheaaDoor.pg
