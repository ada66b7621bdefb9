/- The walks of the statements on the texts of clocks: Tick, Text, Parse. -/
import Derived.Test.YtodkmmmbomoheaaDoorPa5
import Derived.Test.YtodkmmmbomoheaaDoorCkS
namespace Go.Proofs.YtodkmmmbomoheaaDoor.pg
open Go.ChangeShapes Go.WideShapes Go.ChangeAt Go.RowKit
set_option linter.unusedVariables false
set_option linter.unusedSimpArgs false
set_option maxRecDepth 100000
attribute [local go_sem ↓] Go.wp_at_zero Go.wp_at_succ
theorem run_eqS (x : Ck) (wx : World) : (binOp .eql 23 x.val x.val).run Tryd.prog wx = .ok (.bool true) wx := by rw [run_eqK, (eqK_iff x x).mpr rfl]
set_option maxHeartbeats 4000000 in
theorem ticks_ok (a : Ck) (g : Int) (s : ByteArray) (ha : a.ok) (w : World) (hV : Vars w) : Calls Tryd.prog 4 #[a.val, .int .i64 g, .string s] w fun e w' => e = .returned (.bool true) ∧ Below w.heap.size w w' := by
  have h_a := inB_new w a
  have hB0 : Hid (Below w.heap.size w (w.alloc (objK a))) := boxed _ _
  have hVH : Hid (Vars w) := hV
  obtain ⟨T, g2, hTk⟩ := tick_some a g
  obtain ⟨P, k, hP⟩ := parse_some s
  have c1 := tick_any a g T g2 hTk
  have c2 := rtick_any a g T g2 hTk
  have c4 : ∀ wx, Vars wx → Calls Tryd.prog 21 #[.string s] wx _ := fun wx h => parse_any s wx h P k hP
  have c5 : ∀ wx, Vars wx → Calls Tryd.prog 22 #[.string s] wx _ := fun wx h => rparse_any s wx h P k hP
  have c8 := small_any
  have e1 := run_eqS T
  have e2 := run_eqS P
  have c3 := text_any a ha
  have c6 := bad_ok a a ha ha
  have c7 := rtext_any a ha
  clear hTk hP hV ha
  generalize textK a = tx at *
  go_enter Tryd.func4, Tryd.ntmps4
  go_wp2_with (first
    | (refine wpList_load_row rfl 23 _ rfl w.heap.size rfl _ _ _ _ h_a Tryd.underlying23 rfl infoK ?_))
  go_at_call 18
  refine (c1 _).mono ?_
  rintro e w1 ⟨rfl, hb1⟩
  replace h_a := h_a.later hb1
  have hB1 : Hid (Below w.heap.size w w1) := bthen hB0.out hb1
  clear hb1 hB0
  replace h_a := h_a.later (boxed w1 (objK T))
  have h_x := inB_new w1 T
  have hA1 : Hid (Below w.heap.size w (w1.alloc (objK T))) := bthen hB1.out (boxed _ _)
  clear hB1
  go_wp2_with (first
    | (refine wpList_load_row rfl 23 _ rfl w.heap.size rfl _ _ _ _ h_a Tryd.underlying23 rfl infoK ?_)
    | (refine wpList_load_row rfl 23 _ rfl w1.heap.size rfl _ _ _ _ h_x Tryd.underlying23 rfl infoK ?_))
  go_at_call 19
  refine (c2 _).mono ?_
  rintro e w2 ⟨rfl, hb2⟩
  replace h_a := h_a.later hb2
  replace h_x := h_x.later hb2
  have hB2 : Hid (Below w.heap.size w w2) := bthen hA1.out hb2
  clear hb2 hA1
  replace h_a := h_a.later (boxed w2 (objK T))
  replace h_x := h_x.later (boxed w2 (objK T))
  have h_y := inB_new w2 T
  have hA2 : Hid (Below w.heap.size w (w2.alloc (objK T))) := bthen hB2.out (boxed _ _)
  clear hB2
  go_wp2_with (first
    | (refine wpList_load_row rfl 23 _ rfl w.heap.size rfl _ _ _ _ h_a Tryd.underlying23 rfl infoK ?_)
    | (refine wpList_load_row rfl 23 _ rfl w1.heap.size rfl _ _ _ _ h_x Tryd.underlying23 rfl infoK ?_)
    | (refine wpList_load_row rfl 23 _ rfl w2.heap.size rfl _ _ _ _ h_y Tryd.underlying23 rfl infoK ?_))
  go_at_call 20
  refine (c3 _ (hVH.out.tb.later hA2.out)).mono ?_
  rintro e w3 ⟨rfl, hb3⟩
  replace h_a := h_a.later hb3
  replace h_x := h_x.later hb3
  replace h_y := h_y.later hb3
  have hB3 : Hid (Below w.heap.size w w3) := bthen hA2.out hb3
  clear hb3 hA2
  go_wp2_with (first
    | (refine wpList_load_row rfl 23 _ rfl w.heap.size rfl _ _ _ _ h_a Tryd.underlying23 rfl infoK ?_)
    | (refine wpList_load_row rfl 23 _ rfl w1.heap.size rfl _ _ _ _ h_x Tryd.underlying23 rfl infoK ?_)
    | (refine wpList_load_row rfl 23 _ rfl w2.heap.size rfl _ _ _ _ h_y Tryd.underlying23 rfl infoK ?_))
  go_at_call 21
  refine (c4 _ (hVH.out.later hB3.out)).mono ?_
  rintro e w4 ⟨rfl, hb4⟩
  replace h_a := h_a.later hb4
  replace h_x := h_x.later hb4
  replace h_y := h_y.later hb4
  have hB4 : Hid (Below w.heap.size w w4) := bthen hB3.out hb4
  clear hb4 hB3
  replace h_a := h_a.later (boxed w4 (objK P))
  replace h_x := h_x.later (boxed w4 (objK P))
  replace h_y := h_y.later (boxed w4 (objK P))
  have h_p := inB_new w4 P
  have hA4 : Hid (Below w.heap.size w (w4.alloc (objK P))) := bthen hB4.out (boxed _ _)
  clear hB4
  go_wp2_with (first
    | (refine wpList_load_row rfl 23 _ rfl w.heap.size rfl _ _ _ _ h_a Tryd.underlying23 rfl infoK ?_)
    | (refine wpList_load_row rfl 23 _ rfl w1.heap.size rfl _ _ _ _ h_x Tryd.underlying23 rfl infoK ?_)
    | (refine wpList_load_row rfl 23 _ rfl w2.heap.size rfl _ _ _ _ h_y Tryd.underlying23 rfl infoK ?_)
    | (refine wpList_load_row rfl 23 _ rfl w4.heap.size rfl _ _ _ _ h_p Tryd.underlying23 rfl infoK ?_))
  go_at_call 22
  refine (c5 _ (hVH.out.later hA4.out)).mono ?_
  rintro e w5 ⟨rfl, hb5⟩
  replace h_a := h_a.later hb5
  replace h_x := h_x.later hb5
  replace h_y := h_y.later hb5
  replace h_p := h_p.later hb5
  have hB5 : Hid (Below w.heap.size w w5) := bthen hA4.out hb5
  clear hb5 hA4
  replace h_a := h_a.later (boxed w5 (objK P))
  replace h_x := h_x.later (boxed w5 (objK P))
  replace h_y := h_y.later (boxed w5 (objK P))
  replace h_p := h_p.later (boxed w5 (objK P))
  have h_q := inB_new w5 P
  have hA5 : Hid (Below w.heap.size w (w5.alloc (objK P))) := bthen hB5.out (boxed _ _)
  clear hB5
  go_wp2_with (first
    | (refine wpList_load_row rfl 23 _ rfl w.heap.size rfl _ _ _ _ h_a Tryd.underlying23 rfl infoK ?_)
    | (refine wpList_load_row rfl 23 _ rfl w1.heap.size rfl _ _ _ _ h_x Tryd.underlying23 rfl infoK ?_)
    | (refine wpList_load_row rfl 23 _ rfl w2.heap.size rfl _ _ _ _ h_y Tryd.underlying23 rfl infoK ?_)
    | (refine wpList_load_row rfl 23 _ rfl w4.heap.size rfl _ _ _ _ h_p Tryd.underlying23 rfl infoK ?_)
    | (refine wpList_load_row rfl 23 _ rfl w5.heap.size rfl _ _ _ _ h_q Tryd.underlying23 rfl infoK ?_))
  go_at_call 12
  refine (c6 _).mono ?_
  rintro e w6 ⟨rfl, hb6⟩
  replace h_a := h_a.later hb6
  replace h_x := h_x.later hb6
  replace h_y := h_y.later hb6
  replace h_p := h_p.later hb6
  replace h_q := h_q.later hb6
  have hB6 : Hid (Below w.heap.size w w6) := bthen hA5.out hb6
  clear hb6 hA5
  go_wp2_with (first
    | (refine wpList_load_row rfl 23 _ rfl w.heap.size rfl _ _ _ _ h_a Tryd.underlying23 rfl infoK ?_)
    | (refine wpList_load_row rfl 23 _ rfl w1.heap.size rfl _ _ _ _ h_x Tryd.underlying23 rfl infoK ?_)
    | (refine wpList_load_row rfl 23 _ rfl w2.heap.size rfl _ _ _ _ h_y Tryd.underlying23 rfl infoK ?_)
    | (refine wpList_load_row rfl 23 _ rfl w4.heap.size rfl _ _ _ _ h_p Tryd.underlying23 rfl infoK ?_)
    | (refine wpList_load_row rfl 23 _ rfl w5.heap.size rfl _ _ _ _ h_q Tryd.underlying23 rfl infoK ?_))
  go_at_call 23
  refine (c7 _ (hVH.out.tb.later hB6.out)).mono ?_
  rintro e w7 ⟨rfl, hb7⟩
  replace h_a := h_a.later hb7
  replace h_x := h_x.later hb7
  replace h_y := h_y.later hb7
  replace h_p := h_p.later hb7
  replace h_q := h_q.later hb7
  have hB7 : Hid (Below w.heap.size w w7) := bthen hB6.out hb7
  clear hb7 hB6
  obtain ⟨q_a0, q_a1, q_a2, q_a3, q_a4, q_a5⟩ := h_a.box
  go_wp2_with (first
    | (refine wpList_load_row rfl 23 _ rfl w.heap.size rfl _ _ _ _ h_a Tryd.underlying23 rfl infoK ?_)
    | (refine wpList_load_row rfl 23 _ rfl w1.heap.size rfl _ _ _ _ h_x Tryd.underlying23 rfl infoK ?_)
    | (refine wpList_load_row rfl 23 _ rfl w2.heap.size rfl _ _ _ _ h_y Tryd.underlying23 rfl infoK ?_)
    | (refine wpList_load_row rfl 23 _ rfl w4.heap.size rfl _ _ _ _ h_p Tryd.underlying23 rfl infoK ?_)
    | (refine wpList_load_row rfl 23 _ rfl w5.heap.size rfl _ _ _ _ h_q Tryd.underlying23 rfl infoK ?_))
  go_at_call 12
  refine (c6 _).mono ?_
  rintro e w8 ⟨rfl, hb8⟩
  replace h_a := h_a.later hb8
  replace h_x := h_x.later hb8
  replace h_y := h_y.later hb8
  replace h_p := h_p.later hb8
  replace h_q := h_q.later hb8
  have hB8 : Hid (Below w.heap.size w w8) := bthen hB7.out hb8
  clear hb8 hB7
  obtain ⟨q_p0, q_p1, q_p2, q_p3, q_p4, q_p5⟩ := h_p.box
  obtain ⟨q_q0, q_q1, q_q2, q_q3, q_q4, q_q5⟩ := h_q.box
  go_wp2_with (first
    | (refine wpList_load_row rfl 23 _ rfl w.heap.size rfl _ _ _ _ h_a Tryd.underlying23 rfl infoK ?_)
    | (refine wpList_load_row rfl 23 _ rfl w1.heap.size rfl _ _ _ _ h_x Tryd.underlying23 rfl infoK ?_)
    | (refine wpList_load_row rfl 23 _ rfl w2.heap.size rfl _ _ _ _ h_y Tryd.underlying23 rfl infoK ?_)
    | (refine wpList_load_row rfl 23 _ rfl w4.heap.size rfl _ _ _ _ h_p Tryd.underlying23 rfl infoK ?_)
    | (refine wpList_load_row rfl 23 _ rfl w5.heap.size rfl _ _ _ _ h_q Tryd.underlying23 rfl infoK ?_))
  go_at_call 14
  refine (c8 _ (hVH.out.tb.later hB8.out)).mono ?_
  rintro e w9 ⟨rfl, hb9⟩
  replace h_a := h_a.later hb9
  replace h_x := h_x.later hb9
  replace h_y := h_y.later hb9
  replace h_p := h_p.later hb9
  replace h_q := h_q.later hb9
  have hB9 : Hid (Below w.heap.size w w9) := bthen hB8.out hb9
  clear hb9 hB8
  go_wp2
  go_ret
  exact ⟨rfl, hB9.out⟩
set_option maxHeartbeats 4000000 in
theorem ticks_bad (a : Ck) (g : Int) (s : ByteArray) (ha : ¬ a.ok) (w : World) (hV : Vars w) : Calls Tryd.prog 4 #[a.val, .int .i64 g, .string s] w fun e w' => e = .returned (.bool true) ∧ Below w.heap.size w w' := by
  have h_a := inB_new w a
  have hB0 : Hid (Below w.heap.size w (w.alloc (objK a))) := boxed _ _
  have hVH : Hid (Vars w) := hV
  obtain ⟨T, g2, hTk⟩ := tick_some a g
  obtain ⟨P, k, hP⟩ := parse_some s
  have c1 := tick_any a g T g2 hTk
  have c2 := rtick_any a g T g2 hTk
  have c4 : ∀ wx, Vars wx → Calls Tryd.prog 21 #[.string s] wx _ := fun wx h => parse_any s wx h P k hP
  have c5 : ∀ wx, Vars wx → Calls Tryd.prog 22 #[.string s] wx _ := fun wx h => rparse_any s wx h P k hP
  have c8 := small_any
  have e1 := run_eqS T
  have e2 := run_eqS P
  have c3 := text_bad a ha
  have c6 := bad_bad a a fun q => ha q.1
  clear hTk hP hV ha
  go_enter Tryd.func4, Tryd.ntmps4
  go_wp2_with (first
    | (refine wpList_load_row rfl 23 _ rfl w.heap.size rfl _ _ _ _ h_a Tryd.underlying23 rfl infoK ?_))
  go_at_call 18
  refine (c1 _).mono ?_
  rintro e w1 ⟨rfl, hb1⟩
  replace h_a := h_a.later hb1
  have hB1 : Hid (Below w.heap.size w w1) := bthen hB0.out hb1
  clear hb1 hB0
  replace h_a := h_a.later (boxed w1 (objK T))
  have h_x := inB_new w1 T
  have hA1 : Hid (Below w.heap.size w (w1.alloc (objK T))) := bthen hB1.out (boxed _ _)
  clear hB1
  go_wp2_with (first
    | (refine wpList_load_row rfl 23 _ rfl w.heap.size rfl _ _ _ _ h_a Tryd.underlying23 rfl infoK ?_)
    | (refine wpList_load_row rfl 23 _ rfl w1.heap.size rfl _ _ _ _ h_x Tryd.underlying23 rfl infoK ?_))
  go_at_call 19
  refine (c2 _).mono ?_
  rintro e w2 ⟨rfl, hb2⟩
  replace h_a := h_a.later hb2
  replace h_x := h_x.later hb2
  have hB2 : Hid (Below w.heap.size w w2) := bthen hA1.out hb2
  clear hb2 hA1
  replace h_a := h_a.later (boxed w2 (objK T))
  replace h_x := h_x.later (boxed w2 (objK T))
  have h_y := inB_new w2 T
  have hA2 : Hid (Below w.heap.size w (w2.alloc (objK T))) := bthen hB2.out (boxed _ _)
  clear hB2
  go_wp2_with (first
    | (refine wpList_load_row rfl 23 _ rfl w.heap.size rfl _ _ _ _ h_a Tryd.underlying23 rfl infoK ?_)
    | (refine wpList_load_row rfl 23 _ rfl w1.heap.size rfl _ _ _ _ h_x Tryd.underlying23 rfl infoK ?_)
    | (refine wpList_load_row rfl 23 _ rfl w2.heap.size rfl _ _ _ _ h_y Tryd.underlying23 rfl infoK ?_))
  go_at_call 20
  refine (c3 _).mono ?_
  rintro e w3 ⟨rfl, hb3⟩
  replace h_a := h_a.later hb3
  replace h_x := h_x.later hb3
  replace h_y := h_y.later hb3
  have hB3 : Hid (Below w.heap.size w w3) := bthen hA2.out hb3
  clear hb3 hA2
  go_wp2_with (first
    | (refine wpList_load_row rfl 23 _ rfl w.heap.size rfl _ _ _ _ h_a Tryd.underlying23 rfl infoK ?_)
    | (refine wpList_load_row rfl 23 _ rfl w1.heap.size rfl _ _ _ _ h_x Tryd.underlying23 rfl infoK ?_)
    | (refine wpList_load_row rfl 23 _ rfl w2.heap.size rfl _ _ _ _ h_y Tryd.underlying23 rfl infoK ?_))
  go_at_call 21
  refine (c4 _ (hVH.out.later hB3.out)).mono ?_
  rintro e w4 ⟨rfl, hb4⟩
  replace h_a := h_a.later hb4
  replace h_x := h_x.later hb4
  replace h_y := h_y.later hb4
  have hB4 : Hid (Below w.heap.size w w4) := bthen hB3.out hb4
  clear hb4 hB3
  replace h_a := h_a.later (boxed w4 (objK P))
  replace h_x := h_x.later (boxed w4 (objK P))
  replace h_y := h_y.later (boxed w4 (objK P))
  have h_p := inB_new w4 P
  have hA4 : Hid (Below w.heap.size w (w4.alloc (objK P))) := bthen hB4.out (boxed _ _)
  clear hB4
  go_wp2_with (first
    | (refine wpList_load_row rfl 23 _ rfl w.heap.size rfl _ _ _ _ h_a Tryd.underlying23 rfl infoK ?_)
    | (refine wpList_load_row rfl 23 _ rfl w1.heap.size rfl _ _ _ _ h_x Tryd.underlying23 rfl infoK ?_)
    | (refine wpList_load_row rfl 23 _ rfl w2.heap.size rfl _ _ _ _ h_y Tryd.underlying23 rfl infoK ?_)
    | (refine wpList_load_row rfl 23 _ rfl w4.heap.size rfl _ _ _ _ h_p Tryd.underlying23 rfl infoK ?_))
  go_at_call 22
  refine (c5 _ (hVH.out.later hA4.out)).mono ?_
  rintro e w5 ⟨rfl, hb5⟩
  replace h_a := h_a.later hb5
  replace h_x := h_x.later hb5
  replace h_y := h_y.later hb5
  replace h_p := h_p.later hb5
  have hB5 : Hid (Below w.heap.size w w5) := bthen hA4.out hb5
  clear hb5 hA4
  replace h_a := h_a.later (boxed w5 (objK P))
  replace h_x := h_x.later (boxed w5 (objK P))
  replace h_y := h_y.later (boxed w5 (objK P))
  replace h_p := h_p.later (boxed w5 (objK P))
  have h_q := inB_new w5 P
  have hA5 : Hid (Below w.heap.size w (w5.alloc (objK P))) := bthen hB5.out (boxed _ _)
  clear hB5
  go_wp2_with (first
    | (refine wpList_load_row rfl 23 _ rfl w.heap.size rfl _ _ _ _ h_a Tryd.underlying23 rfl infoK ?_)
    | (refine wpList_load_row rfl 23 _ rfl w1.heap.size rfl _ _ _ _ h_x Tryd.underlying23 rfl infoK ?_)
    | (refine wpList_load_row rfl 23 _ rfl w2.heap.size rfl _ _ _ _ h_y Tryd.underlying23 rfl infoK ?_)
    | (refine wpList_load_row rfl 23 _ rfl w4.heap.size rfl _ _ _ _ h_p Tryd.underlying23 rfl infoK ?_)
    | (refine wpList_load_row rfl 23 _ rfl w5.heap.size rfl _ _ _ _ h_q Tryd.underlying23 rfl infoK ?_))
  go_at_call 12
  refine (c6 _).mono ?_
  rintro e w6 ⟨rfl, hb6⟩
  replace h_a := h_a.later hb6
  replace h_x := h_x.later hb6
  replace h_y := h_y.later hb6
  replace h_p := h_p.later hb6
  replace h_q := h_q.later hb6
  have hB6 : Hid (Below w.heap.size w w6) := bthen hA5.out hb6
  clear hb6 hA5
  obtain ⟨q_a0, q_a1, q_a2, q_a3, q_a4, q_a5⟩ := h_a.box
  go_wp2_with (first
    | (refine wpList_load_row rfl 23 _ rfl w.heap.size rfl _ _ _ _ h_a Tryd.underlying23 rfl infoK ?_)
    | (refine wpList_load_row rfl 23 _ rfl w1.heap.size rfl _ _ _ _ h_x Tryd.underlying23 rfl infoK ?_)
    | (refine wpList_load_row rfl 23 _ rfl w2.heap.size rfl _ _ _ _ h_y Tryd.underlying23 rfl infoK ?_)
    | (refine wpList_load_row rfl 23 _ rfl w4.heap.size rfl _ _ _ _ h_p Tryd.underlying23 rfl infoK ?_)
    | (refine wpList_load_row rfl 23 _ rfl w5.heap.size rfl _ _ _ _ h_q Tryd.underlying23 rfl infoK ?_))
  go_at_call 12
  refine (c6 _).mono ?_
  rintro e w7 ⟨rfl, hb7⟩
  replace h_a := h_a.later hb7
  replace h_x := h_x.later hb7
  replace h_y := h_y.later hb7
  replace h_p := h_p.later hb7
  replace h_q := h_q.later hb7
  have hB7 : Hid (Below w.heap.size w w7) := bthen hB6.out hb7
  clear hb7 hB6
  obtain ⟨q_p0, q_p1, q_p2, q_p3, q_p4, q_p5⟩ := h_p.box
  obtain ⟨q_q0, q_q1, q_q2, q_q3, q_q4, q_q5⟩ := h_q.box
  go_wp2_with (first
    | (refine wpList_load_row rfl 23 _ rfl w.heap.size rfl _ _ _ _ h_a Tryd.underlying23 rfl infoK ?_)
    | (refine wpList_load_row rfl 23 _ rfl w1.heap.size rfl _ _ _ _ h_x Tryd.underlying23 rfl infoK ?_)
    | (refine wpList_load_row rfl 23 _ rfl w2.heap.size rfl _ _ _ _ h_y Tryd.underlying23 rfl infoK ?_)
    | (refine wpList_load_row rfl 23 _ rfl w4.heap.size rfl _ _ _ _ h_p Tryd.underlying23 rfl infoK ?_)
    | (refine wpList_load_row rfl 23 _ rfl w5.heap.size rfl _ _ _ _ h_q Tryd.underlying23 rfl infoK ?_))
  go_at_call 14
  refine (c8 _ (hVH.out.tb.later hB7.out)).mono ?_
  rintro e w8 ⟨rfl, hb8⟩
  replace h_a := h_a.later hb8
  replace h_x := h_x.later hb8
  replace h_y := h_y.later hb8
  replace h_p := h_p.later hb8
  replace h_q := h_q.later hb8
  have hB8 : Hid (Below w.heap.size w w8) := bthen hB7.out hb8
  clear hb8 hB7
  go_wp2
  go_ret
  exact ⟨rfl, hB8.out⟩
theorem ticks_any (a : Ck) (g : Int) (s : ByteArray) (w : World) (hV : Vars w) : Calls Tryd.prog 4 #[a.val, .int .i64 g, .string s] w fun e w' => e = .returned (.bool true) ∧ Below w.heap.size w w' := by
  by_cases ha : a.ok
  · exact ticks_ok a g s ha w hV
  · exact ticks_bad a g s ha w hV
end Go.Proofs.YtodkmmmbomoheaaDoor.pg
