/- The walks of the statements on clocks: Join, Meet and Cmp are the document's. -/
import Derived.Test.YtodkmmmbomoheaaDoorCk11
namespace Go.Proofs.YtodkmmmbomoheaaDoor.pg
open Go.ChangeShapes Go.WideShapes Go.ChangeAt Go.RowKit
set_option linter.unusedVariables false
set_option linter.unusedSimpArgs false
set_option maxRecDepth 100000
attribute [local go_sem ↓] Go.wp_at_zero Go.wp_at_succ
set_option maxHeartbeats 4000000 in
theorem joins_ok (a b : Ck) (ha : a.ok) (hb : b.ok) (w : World) (hT : Tab w) : Calls Tryd.prog 3 #[a.val, b.val] w fun e w' => e = .returned (.bool true) ∧ Below w.heap.size w w' := by
  obtain ⟨h_a, h_b⟩ := boxes2 w a b
  have hB0 : Hid (Below w.heap.size w ((w.alloc (objK a)).alloc (objK b))) := boxed2 _ _ _
  have hTH : Hid (Tab w) := hT
  obtain ⟨J, eJ⟩ : ∃ J, Hid (J = a.join b) := ⟨_, rfl⟩
  have kJ : J.ok := by rw [eJ.out]; exact join_okK ha hb
  have c1 : ∀ wx, Calls Tryd.prog 9 #[a.val, b.val] wx fun e w' => e = .returned (.tuple #[J.val, .int .i64 0]) ∧ Below wx.heap.size wx w' := fun wx => by rw [eJ.out]; exact join_any a b ha hb wx
  obtain ⟨M, eM⟩ : ∃ J, Hid (J = a.meet b) := ⟨_, rfl⟩
  have kM : M.ok := by rw [eM.out]; exact meet_okK ha hb
  have c2 : ∀ wx, Calls Tryd.prog 10 #[a.val, b.val] wx fun e w' => e = .returned (.tuple #[M.val, .int .i64 0]) ∧ Below wx.heap.size wx w' := fun wx => by rw [eM.out]; exact meet_any a b ha hb wx
  obtain ⟨R, eR⟩ : ∃ R, Hid (R = cmpK a b) := ⟨_, rfl⟩
  have c3 : ∀ wx, Calls Tryd.prog 11 #[a.val, b.val] wx fun e w' => e = .returned (.tuple #[.int .i64 R, .int .i64 0]) ∧ Below wx.heap.size wx w' := fun wx => cmp_any' a b ha hb wx R eR
  have c4 := bad_ok a b ha hb
  have ck := check_ok a ha
  have cb := bad_ok a a ha ha
  have r1 : ∀ wx, Calls Tryd.prog 15 #[a.val, b.val] wx fun e w' => e = .returned J.val ∧ Below wx.heap.size wx w' := fun wx => by rw [eJ.out]; exact rjoin_any a b wx
  have r2 : ∀ wx, Calls Tryd.prog 16 #[a.val, b.val] wx fun e w' => e = .returned M.val ∧ Below wx.heap.size wx w' := fun wx => by rw [eM.out]; exact rmeet_any a b wx
  have r3 : ∀ wx, Calls Tryd.prog 17 #[a.val, b.val] wx fun e w' => e = .returned (.int .i64 R) ∧ Below wx.heap.size wx w' := fun wx => rcmp_any a b wx R eR
  have e1 := run_eqT (rfl : J = J)
  have e2 := run_eqT (rfl : M = M)
  clear ha hb hT kJ kM eJ eM eR
  go_enter Tryd.func3, Tryd.ntmps3
  go_wp2_with (first
    | (refine wpList_load_row rfl 23 _ rfl w.heap.size rfl _ _ _ _ h_a Tryd.underlying23 rfl infoK ?_)
    | (refine wpList_load_row rfl 23 _ rfl (w.heap.size + 1) rfl _ _ _ _ h_b Tryd.underlying23 rfl infoK ?_))
  go_at_call 9
  refine (c1 _).mono ?_
  rintro e w1 ⟨rfl, hb1⟩
  replace h_a := h_a.later hb1
  replace h_b := h_b.later hb1
  have hB1 : Hid (Below w.heap.size w w1) := bthen hB0.out hb1
  clear hb1 hB0
  replace h_a := h_a.later (boxed w1 (objK J))
  replace h_b := h_b.later (boxed w1 (objK J))
  have h_j := inB_new w1 J
  have hA1 : Hid (Below w.heap.size w (w1.alloc (objK J))) := bthen hB1.out (boxed _ _)
  clear hB1
  go_wp2_with (first
    | (refine wpList_load_row rfl 23 _ rfl w.heap.size rfl _ _ _ _ h_a Tryd.underlying23 rfl infoK ?_)
    | (refine wpList_load_row rfl 23 _ rfl (w.heap.size + 1) rfl _ _ _ _ h_b Tryd.underlying23 rfl infoK ?_)
    | (refine wpList_load_row rfl 23 _ rfl w1.heap.size rfl _ _ _ _ h_j Tryd.underlying23 rfl infoK ?_))
  go_at_call 10
  refine (c2 _).mono ?_
  rintro e w2 ⟨rfl, hb2⟩
  replace h_a := h_a.later hb2
  replace h_b := h_b.later hb2
  replace h_j := h_j.later hb2
  have hB2 : Hid (Below w.heap.size w w2) := bthen hA1.out hb2
  clear hb2 hA1
  replace h_a := h_a.later (boxed w2 (objK M))
  replace h_b := h_b.later (boxed w2 (objK M))
  replace h_j := h_j.later (boxed w2 (objK M))
  have h_m := inB_new w2 M
  have hA2 : Hid (Below w.heap.size w (w2.alloc (objK M))) := bthen hB2.out (boxed _ _)
  clear hB2
  go_wp2_with (first
    | (refine wpList_load_row rfl 23 _ rfl w.heap.size rfl _ _ _ _ h_a Tryd.underlying23 rfl infoK ?_)
    | (refine wpList_load_row rfl 23 _ rfl (w.heap.size + 1) rfl _ _ _ _ h_b Tryd.underlying23 rfl infoK ?_)
    | (refine wpList_load_row rfl 23 _ rfl w1.heap.size rfl _ _ _ _ h_j Tryd.underlying23 rfl infoK ?_)
    | (refine wpList_load_row rfl 23 _ rfl w2.heap.size rfl _ _ _ _ h_m Tryd.underlying23 rfl infoK ?_))
  go_at_call 11
  refine (c3 _).mono ?_
  rintro e w3 ⟨rfl, hb3⟩
  replace h_a := h_a.later hb3
  replace h_b := h_b.later hb3
  replace h_j := h_j.later hb3
  replace h_m := h_m.later hb3
  have hB3 : Hid (Below w.heap.size w w3) := bthen hA2.out hb3
  clear hb3 hA2
  go_wp2_with (first
    | (refine wpList_load_row rfl 23 _ rfl w.heap.size rfl _ _ _ _ h_a Tryd.underlying23 rfl infoK ?_)
    | (refine wpList_load_row rfl 23 _ rfl (w.heap.size + 1) rfl _ _ _ _ h_b Tryd.underlying23 rfl infoK ?_)
    | (refine wpList_load_row rfl 23 _ rfl w1.heap.size rfl _ _ _ _ h_j Tryd.underlying23 rfl infoK ?_)
    | (refine wpList_load_row rfl 23 _ rfl w2.heap.size rfl _ _ _ _ h_m Tryd.underlying23 rfl infoK ?_))
  go_at_call 12
  refine (c4 _).mono ?_
  rintro e w4 ⟨rfl, hb4⟩
  replace h_a := h_a.later hb4
  replace h_b := h_b.later hb4
  replace h_j := h_j.later hb4
  replace h_m := h_m.later hb4
  have hB4 : Hid (Below w.heap.size w w4) := bthen hB3.out hb4
  clear hb4 hB3
  go_wp2_with (first
    | (refine wpList_load_row rfl 23 _ rfl w.heap.size rfl _ _ _ _ h_a Tryd.underlying23 rfl infoK ?_)
    | (refine wpList_load_row rfl 23 _ rfl (w.heap.size + 1) rfl _ _ _ _ h_b Tryd.underlying23 rfl infoK ?_)
    | (refine wpList_load_row rfl 23 _ rfl w1.heap.size rfl _ _ _ _ h_j Tryd.underlying23 rfl infoK ?_)
    | (refine wpList_load_row rfl 23 _ rfl w2.heap.size rfl _ _ _ _ h_m Tryd.underlying23 rfl infoK ?_))
  have hBW : Hid (Below w.heap.size w w4) := hB4.out
  generalize w4 = W at *
  obtain ⟨d0, d1, d2, d3, d4, d5⟩ := boxK_cls h_a.box
  have hne2 := bey_some W
  refine wp_region_cls (Bey W) (by kernel_rfl) (by kernel_rfl) (bey_drew W) ?_
  repeat (go_big_quiet_step (first | (go_at_call 13; exact calls_bey (ck _)) | (go_at_call 12; exact calls_bey (cb _))))
  refine wpQuiet_nil ?_
  intro _ hw'
  obtain ⟨sq, hw''⟩ := hw'
  subst hw''
  have hB9 : Hid (Below w.heap.size w sq.w) := bthen hBW.out sq.h
  replace h_a := h_a.later sq.h
  replace h_b := h_b.later sq.h
  replace h_j := h_j.later sq.h
  replace h_m := h_m.later sq.h
  clear d0 d1 d2 d3 d4 d5 hne2
  go_wp2_with fail
  generalize sq.w = V at *
  obtain ⟨d0, d1, d2, d3, d4, d5⟩ := boxK_cls h_a.box
  obtain ⟨f0, f1, f2, f3, f4, f5⟩ := boxK_cls h_b.box
  obtain ⟨j0, j1, j2, j3, j4, j5⟩ := boxK_cls h_j.box
  obtain ⟨m0, m1, m2, m3, m4, m5⟩ := boxK_cls h_m.box
  have hne3 := bey_some V
  refine wp_region_cls (Bey V) (by kernel_rfl) (by kernel_rfl) (bey_drew V) ?_
  repeat (go_big_quiet_step (first | (go_at_call 15; exact calls_bey (r1 _)) | (go_at_call 16; exact calls_bey (r2 _)) | (go_at_call 17; exact calls_bey (r3 _))))
  refine wpQuiet_nil ?_
  intro _ hw'
  obtain ⟨sr, hw''⟩ := hw'
  subst hw''
  go_wp2
  go_ret
  exact ⟨rfl, bthen hB9.out sr.h⟩
set_option maxHeartbeats 4000000 in
theorem joins_bad1 (a b : Ck) (hno : ¬ (a.ok ∧ b.ok)) (ha : a.ok) (w : World) (hT : Tab w) : Calls Tryd.prog 3 #[a.val, b.val] w fun e w' => e = .returned (.bool true) ∧ Below w.heap.size w w' := by
  obtain ⟨h_a, h_b⟩ := boxes2 w a b
  have hB0 : Hid (Below w.heap.size w ((w.alloc (objK a)).alloc (objK b))) := boxed2 _ _ _
  have hTH : Hid (Tab w) := hT
  have c1 := join_bad a b hno
  have c2 := meet_bad a b hno
  have c3 := cmp_bad a b hno
  have c4 := bad_bad a b hno
  have ck := check_ok a ha
  have cb := bad_ok a a ha ha
  have cs := small_any
  have e1 := run_eqT (rfl : zeroK = zeroK)
  clear hno ha hT
  go_enter Tryd.func3, Tryd.ntmps3
  go_wp2_with (first
    | (refine wpList_load_row rfl 23 _ rfl w.heap.size rfl _ _ _ _ h_a Tryd.underlying23 rfl infoK ?_)
    | (refine wpList_load_row rfl 23 _ rfl (w.heap.size + 1) rfl _ _ _ _ h_b Tryd.underlying23 rfl infoK ?_))
  go_at_call 9
  refine (c1 _).mono ?_
  rintro e w1 ⟨rfl, hb1⟩
  replace h_a := h_a.later hb1
  replace h_b := h_b.later hb1
  have hB1 : Hid (Below w.heap.size w w1) := bthen hB0.out hb1
  clear hb1 hB0
  replace h_a := h_a.later (boxed w1 (objK zeroK))
  replace h_b := h_b.later (boxed w1 (objK zeroK))
  have h_j := inB_new w1 zeroK
  have hA1 : Hid (Below w.heap.size w (w1.alloc (objK zeroK))) := bthen hB1.out (boxed _ _)
  clear hB1
  go_wp2_with (first
    | (refine wpList_load_row rfl 23 _ rfl w.heap.size rfl _ _ _ _ h_a Tryd.underlying23 rfl infoK ?_)
    | (refine wpList_load_row rfl 23 _ rfl (w.heap.size + 1) rfl _ _ _ _ h_b Tryd.underlying23 rfl infoK ?_)
    | (refine wpList_load_row rfl 23 _ rfl w1.heap.size rfl _ _ _ _ h_j Tryd.underlying23 rfl infoK ?_))
  go_at_call 10
  refine (c2 _).mono ?_
  rintro e w2 ⟨rfl, hb2⟩
  replace h_a := h_a.later hb2
  replace h_b := h_b.later hb2
  replace h_j := h_j.later hb2
  have hB2 : Hid (Below w.heap.size w w2) := bthen hA1.out hb2
  clear hb2 hA1
  replace h_a := h_a.later (boxed w2 (objK zeroK))
  replace h_b := h_b.later (boxed w2 (objK zeroK))
  replace h_j := h_j.later (boxed w2 (objK zeroK))
  have h_m := inB_new w2 zeroK
  have hA2 : Hid (Below w.heap.size w (w2.alloc (objK zeroK))) := bthen hB2.out (boxed _ _)
  clear hB2
  go_wp2_with (first
    | (refine wpList_load_row rfl 23 _ rfl w.heap.size rfl _ _ _ _ h_a Tryd.underlying23 rfl infoK ?_)
    | (refine wpList_load_row rfl 23 _ rfl (w.heap.size + 1) rfl _ _ _ _ h_b Tryd.underlying23 rfl infoK ?_)
    | (refine wpList_load_row rfl 23 _ rfl w1.heap.size rfl _ _ _ _ h_j Tryd.underlying23 rfl infoK ?_)
    | (refine wpList_load_row rfl 23 _ rfl w2.heap.size rfl _ _ _ _ h_m Tryd.underlying23 rfl infoK ?_))
  go_at_call 11
  refine (c3 _).mono ?_
  rintro e w3 ⟨rfl, hb3⟩
  replace h_a := h_a.later hb3
  replace h_b := h_b.later hb3
  replace h_j := h_j.later hb3
  replace h_m := h_m.later hb3
  have hB3 : Hid (Below w.heap.size w w3) := bthen hA2.out hb3
  clear hb3 hA2
  go_wp2_with (first
    | (refine wpList_load_row rfl 23 _ rfl w.heap.size rfl _ _ _ _ h_a Tryd.underlying23 rfl infoK ?_)
    | (refine wpList_load_row rfl 23 _ rfl (w.heap.size + 1) rfl _ _ _ _ h_b Tryd.underlying23 rfl infoK ?_)
    | (refine wpList_load_row rfl 23 _ rfl w1.heap.size rfl _ _ _ _ h_j Tryd.underlying23 rfl infoK ?_)
    | (refine wpList_load_row rfl 23 _ rfl w2.heap.size rfl _ _ _ _ h_m Tryd.underlying23 rfl infoK ?_))
  go_at_call 12
  refine (c4 _).mono ?_
  rintro e w4 ⟨rfl, hb4⟩
  replace h_a := h_a.later hb4
  replace h_b := h_b.later hb4
  replace h_j := h_j.later hb4
  replace h_m := h_m.later hb4
  have hB4 : Hid (Below w.heap.size w w4) := bthen hB3.out hb4
  clear hb4 hB3
  go_wp2_with (first
    | (refine wpList_load_row rfl 23 _ rfl w.heap.size rfl _ _ _ _ h_a Tryd.underlying23 rfl infoK ?_)
    | (refine wpList_load_row rfl 23 _ rfl (w.heap.size + 1) rfl _ _ _ _ h_b Tryd.underlying23 rfl infoK ?_)
    | (refine wpList_load_row rfl 23 _ rfl w1.heap.size rfl _ _ _ _ h_j Tryd.underlying23 rfl infoK ?_)
    | (refine wpList_load_row rfl 23 _ rfl w2.heap.size rfl _ _ _ _ h_m Tryd.underlying23 rfl infoK ?_))
  have hBW : Hid (Below w.heap.size w w4) := hB4.out
  generalize w4 = W at *
  obtain ⟨d0, d1, d2, d3, d4, d5⟩ := boxK_cls h_a.box
  have hne2 := bey_some W
  refine wp_region_cls (Bey W) (by kernel_rfl) (by kernel_rfl) (bey_drew W) ?_
  repeat (go_big_quiet_step (first | (go_at_call 13; exact calls_bey (ck _)) | (go_at_call 12; exact calls_bey (cb _))))
  refine wpQuiet_nil ?_
  intro _ hw'
  obtain ⟨sq, hw''⟩ := hw'
  subst hw''
  have hB9 : Hid (Below w.heap.size w sq.w) := bthen hBW.out sq.h
  have hTW := hTH.out.later hB9.out
  obtain ⟨j0, j1, j2, j3, j4, j5⟩ := (h_j.later sq.h).box
  obtain ⟨m0, m1, m2, m3, m4, m5⟩ := (h_m.later sq.h).box
  clear d0 d1 d2 d3 d4 d5 hne2
  go_wp2_with (go_at_call 14; (with_reducible refine (cs _ hTW).mono ?_); rintro e w30 ⟨rfl, hb30⟩)
  go_ret
  exact ⟨rfl, bthen hB9.out hb30⟩
set_option maxHeartbeats 4000000 in
theorem joins_bad2 (a b : Ck) (hno : ¬ (a.ok ∧ b.ok)) (ha : ¬ a.ok) (w : World) (hT : Tab w) : Calls Tryd.prog 3 #[a.val, b.val] w fun e w' => e = .returned (.bool true) ∧ Below w.heap.size w w' := by
  obtain ⟨h_a, h_b⟩ := boxes2 w a b
  have hB0 : Hid (Below w.heap.size w ((w.alloc (objK a)).alloc (objK b))) := boxed2 _ _ _
  have hTH : Hid (Tab w) := hT
  have c1 := join_bad a b hno
  have c2 := meet_bad a b hno
  have c3 := cmp_bad a b hno
  have c4 := bad_bad a b hno
  have ck := check_bad a ha
  have cb := bad_bad a a (fun q => ha q.1)
  have cs := small_any
  have e1 := run_eqT (rfl : zeroK = zeroK)
  clear hno ha hT
  go_enter Tryd.func3, Tryd.ntmps3
  go_wp2_with (first
    | (refine wpList_load_row rfl 23 _ rfl w.heap.size rfl _ _ _ _ h_a Tryd.underlying23 rfl infoK ?_)
    | (refine wpList_load_row rfl 23 _ rfl (w.heap.size + 1) rfl _ _ _ _ h_b Tryd.underlying23 rfl infoK ?_))
  go_at_call 9
  refine (c1 _).mono ?_
  rintro e w1 ⟨rfl, hb1⟩
  replace h_a := h_a.later hb1
  replace h_b := h_b.later hb1
  have hB1 : Hid (Below w.heap.size w w1) := bthen hB0.out hb1
  clear hb1 hB0
  replace h_a := h_a.later (boxed w1 (objK zeroK))
  replace h_b := h_b.later (boxed w1 (objK zeroK))
  have h_j := inB_new w1 zeroK
  have hA1 : Hid (Below w.heap.size w (w1.alloc (objK zeroK))) := bthen hB1.out (boxed _ _)
  clear hB1
  go_wp2_with (first
    | (refine wpList_load_row rfl 23 _ rfl w.heap.size rfl _ _ _ _ h_a Tryd.underlying23 rfl infoK ?_)
    | (refine wpList_load_row rfl 23 _ rfl (w.heap.size + 1) rfl _ _ _ _ h_b Tryd.underlying23 rfl infoK ?_)
    | (refine wpList_load_row rfl 23 _ rfl w1.heap.size rfl _ _ _ _ h_j Tryd.underlying23 rfl infoK ?_))
  go_at_call 10
  refine (c2 _).mono ?_
  rintro e w2 ⟨rfl, hb2⟩
  replace h_a := h_a.later hb2
  replace h_b := h_b.later hb2
  replace h_j := h_j.later hb2
  have hB2 : Hid (Below w.heap.size w w2) := bthen hA1.out hb2
  clear hb2 hA1
  replace h_a := h_a.later (boxed w2 (objK zeroK))
  replace h_b := h_b.later (boxed w2 (objK zeroK))
  replace h_j := h_j.later (boxed w2 (objK zeroK))
  have h_m := inB_new w2 zeroK
  have hA2 : Hid (Below w.heap.size w (w2.alloc (objK zeroK))) := bthen hB2.out (boxed _ _)
  clear hB2
  go_wp2_with (first
    | (refine wpList_load_row rfl 23 _ rfl w.heap.size rfl _ _ _ _ h_a Tryd.underlying23 rfl infoK ?_)
    | (refine wpList_load_row rfl 23 _ rfl (w.heap.size + 1) rfl _ _ _ _ h_b Tryd.underlying23 rfl infoK ?_)
    | (refine wpList_load_row rfl 23 _ rfl w1.heap.size rfl _ _ _ _ h_j Tryd.underlying23 rfl infoK ?_)
    | (refine wpList_load_row rfl 23 _ rfl w2.heap.size rfl _ _ _ _ h_m Tryd.underlying23 rfl infoK ?_))
  go_at_call 11
  refine (c3 _).mono ?_
  rintro e w3 ⟨rfl, hb3⟩
  replace h_a := h_a.later hb3
  replace h_b := h_b.later hb3
  replace h_j := h_j.later hb3
  replace h_m := h_m.later hb3
  have hB3 : Hid (Below w.heap.size w w3) := bthen hA2.out hb3
  clear hb3 hA2
  go_wp2_with (first
    | (refine wpList_load_row rfl 23 _ rfl w.heap.size rfl _ _ _ _ h_a Tryd.underlying23 rfl infoK ?_)
    | (refine wpList_load_row rfl 23 _ rfl (w.heap.size + 1) rfl _ _ _ _ h_b Tryd.underlying23 rfl infoK ?_)
    | (refine wpList_load_row rfl 23 _ rfl w1.heap.size rfl _ _ _ _ h_j Tryd.underlying23 rfl infoK ?_)
    | (refine wpList_load_row rfl 23 _ rfl w2.heap.size rfl _ _ _ _ h_m Tryd.underlying23 rfl infoK ?_))
  go_at_call 12
  refine (c4 _).mono ?_
  rintro e w4 ⟨rfl, hb4⟩
  replace h_a := h_a.later hb4
  replace h_b := h_b.later hb4
  replace h_j := h_j.later hb4
  replace h_m := h_m.later hb4
  have hB4 : Hid (Below w.heap.size w w4) := bthen hB3.out hb4
  clear hb4 hB3
  go_wp2_with (first
    | (refine wpList_load_row rfl 23 _ rfl w.heap.size rfl _ _ _ _ h_a Tryd.underlying23 rfl infoK ?_)
    | (refine wpList_load_row rfl 23 _ rfl (w.heap.size + 1) rfl _ _ _ _ h_b Tryd.underlying23 rfl infoK ?_)
    | (refine wpList_load_row rfl 23 _ rfl w1.heap.size rfl _ _ _ _ h_j Tryd.underlying23 rfl infoK ?_)
    | (refine wpList_load_row rfl 23 _ rfl w2.heap.size rfl _ _ _ _ h_m Tryd.underlying23 rfl infoK ?_))
  have hBW : Hid (Below w.heap.size w w4) := hB4.out
  generalize w4 = W at *
  obtain ⟨d0, d1, d2, d3, d4, d5⟩ := boxK_cls h_a.box
  have hne2 := bey_some W
  refine wp_region_cls (Bey W) (by kernel_rfl) (by kernel_rfl) (bey_drew W) ?_
  repeat (go_big_quiet_step (first | (go_at_call 13; exact calls_bey (ck _)) | (go_at_call 12; exact calls_bey (cb _))))
  refine wpQuiet_nil ?_
  intro _ hw'
  obtain ⟨sq, hw''⟩ := hw'
  subst hw''
  have hB9 : Hid (Below w.heap.size w sq.w) := bthen hBW.out sq.h
  have hTW := hTH.out.later hB9.out
  obtain ⟨j0, j1, j2, j3, j4, j5⟩ := (h_j.later sq.h).box
  obtain ⟨m0, m1, m2, m3, m4, m5⟩ := (h_m.later sq.h).box
  clear d0 d1 d2 d3 d4 d5 hne2
  go_wp2_with (go_at_call 14; (with_reducible refine (cs _ hTW).mono ?_); rintro e w30 ⟨rfl, hb30⟩)
  go_ret
  exact ⟨rfl, bthen hB9.out hb30⟩
theorem joins_any (a b : Ck) (w : World) (hT : Tab w) : Calls Tryd.prog 3 #[a.val, b.val] w fun e w' => e = .returned (.bool true) ∧ Below w.heap.size w w' := by
  by_cases ha : a.ok
  · by_cases hb : b.ok
    · exact joins_ok a b ha hb w hT
    · exact joins_bad1 a b (fun q => hb q.2) ha w hT
  · exact joins_bad2 a b (fun q => ha q.1) ha w hT
end Go.Proofs.YtodkmmmbomoheaaDoor.pg
