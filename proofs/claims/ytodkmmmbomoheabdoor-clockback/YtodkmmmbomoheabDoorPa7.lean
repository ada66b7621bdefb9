/- The walks of the statements on the texts of clocks: there and back. -/
import Derived.Test.YtodkmmmbomoheabDoorPa5
import Derived.Test.YtodkmmmbomoheabDoorCkS
namespace Go.Proofs.YtodkmmmbomoheabDoor.pg
open Go.ChangeShapes Go.WideShapes Go.ChangeAt Go.RowKit
set_option linter.unusedVariables false
set_option linter.unusedSimpArgs false
set_option maxRecDepth 100000
attribute [local go_sem ↓] Go.wp_at_zero Go.wp_at_succ
theorem run_eqS (x : Ck) (wx : World) : (binOp .eql 23 x.val x.val).run Tryd.prog wx = .ok (.bool true) wx := by rw [run_eqK, (eqK_iff x x).mpr rfl]
set_option maxHeartbeats 4000000 in
theorem back_bad (a : Ck) (s : ByteArray) (ha : ¬ a.ok) (w : World) (hV : Vars w) : Calls Tryd.prog 3 #[a.val, .string s] w fun e w' => e = .returned (.bool true) ∧ Below w.heap.size w w' := by
  have h_a := inB_new w a
  have hB0 : Hid (Below w.heap.size w (w.alloc (objK a))) := boxed _ _
  have hVH : Hid (Vars w) := hV
  have c1 := text_bad a ha
  have c2 := bad_bad a a fun q => ha q.1
  have c3 := small_any
  clear hV ha
  go_enter Tryd.func3, Tryd.ntmps3
  go_wp2_with (first
    | (refine wpList_load_row rfl 23 _ rfl w.heap.size rfl _ _ _ _ h_a Tryd.underlying23 rfl infoK ?_))
  go_at_call 4
  refine (c1 _).mono ?_
  rintro e w1 ⟨rfl, hb1⟩
  replace h_a := h_a.later hb1
  have hB1 : Hid (Below w.heap.size w w1) := bthen hB0.out hb1
  clear hb1 hB0
  go_wp2_with (first
    | (refine wpList_load_row rfl 23 _ rfl w.heap.size rfl _ _ _ _ h_a Tryd.underlying23 rfl infoK ?_))
  go_at_call 5
  refine (c2 _).mono ?_
  rintro e w2 ⟨rfl, hb2⟩
  replace h_a := h_a.later hb2
  have hB2 : Hid (Below w.heap.size w w2) := bthen hB1.out hb2
  clear hb2 hB1
  go_wp2_with (first
    | (refine wpList_load_row rfl 23 _ rfl w.heap.size rfl _ _ _ _ h_a Tryd.underlying23 rfl infoK ?_))
  go_at_call 6
  refine (c3 _ (hVH.out.tb.later hB2.out)).mono ?_
  rintro e w3 ⟨rfl, hb3⟩
  replace h_a := h_a.later hb3
  have hB3 : Hid (Below w.heap.size w w3) := bthen hB2.out hb3
  clear hb3 hB2
  go_wp2
  go_ret
  exact ⟨rfl, hB3.out⟩
set_option maxHeartbeats 4000000 in
theorem back_two (a : Ck) (s : ByteArray) (ha : a.ok) (P : Ck) (k : Int) (hP : Hid (parseP s P k)) (hk : k = 2) (w : World) (hV : Vars w) : Calls Tryd.prog 3 #[a.val, .string s] w fun e w' => e = .returned (.bool true) ∧ Below w.heap.size w w' := by
  have h_a := inB_new w a
  have hB0 : Hid (Below w.heap.size w (w.alloc (objK a))) := boxed _ _
  have hVH : Hid (Vars w) := hV
  have c1 := text_any a ha
  have c2 : ∀ wx, Vars wx → Calls Tryd.prog 7 #[.string (textK a)] wx _ := fun wx h => parse_any (textK a) wx h a 0 (parse_text ha)
  have c3 : ∀ wx, Vars wx → Calls Tryd.prog 7 #[.string s] wx _ := fun wx h => parse_any s wx h P k hP
  have e1 := run_eqS a
  subst hk
  clear hP ha hV
  generalize textK a = tx at *
  go_enter Tryd.func3, Tryd.ntmps3
  go_wp2_with (first
    | (refine wpList_load_row rfl 23 _ rfl w.heap.size rfl _ _ _ _ h_a Tryd.underlying23 rfl infoK ?_))
  go_at_call 4
  refine (c1 _ (hVH.out.tb.later hB0.out)).mono ?_
  rintro e w1 ⟨rfl, hb1⟩
  replace h_a := h_a.later hb1
  have hB1 : Hid (Below w.heap.size w w1) := bthen hB0.out hb1
  clear hb1 hB0
  go_wp2_with (first
    | (refine wpList_load_row rfl 23 _ rfl w.heap.size rfl _ _ _ _ h_a Tryd.underlying23 rfl infoK ?_))
  go_at_call 7
  refine (c2 _ (hVH.out.later hB1.out)).mono ?_
  rintro e w2 ⟨rfl, hb2⟩
  replace h_a := h_a.later hb2
  have hB2 : Hid (Below w.heap.size w w2) := bthen hB1.out hb2
  clear hb2 hB1
  replace h_a := h_a.later (boxed w2 (objK a))
  have h_b := inB_new w2 a
  have hA2 : Hid (Below w.heap.size w (w2.alloc (objK a))) := bthen hB2.out (boxed _ _)
  clear hB2
  go_wp2_with (first
    | (refine wpList_load_row rfl 23 _ rfl w.heap.size rfl _ _ _ _ h_a Tryd.underlying23 rfl infoK ?_)
    | (refine wpList_load_row rfl 23 _ rfl w2.heap.size rfl _ _ _ _ h_b Tryd.underlying23 rfl infoK ?_))
  go_at_call 7
  refine (c3 _ (hVH.out.later hA2.out)).mono ?_
  rintro e w3 ⟨rfl, hb3⟩
  replace h_a := h_a.later hb3
  replace h_b := h_b.later hb3
  have hB3 : Hid (Below w.heap.size w w3) := bthen hA2.out hb3
  clear hb3 hA2
  replace h_a := h_a.later (boxed w3 (objK P))
  replace h_b := h_b.later (boxed w3 (objK P))
  have h_p := inB_new w3 P
  have hA3 : Hid (Below w.heap.size w (w3.alloc (objK P))) := bthen hB3.out (boxed _ _)
  clear hB3
  obtain ⟨q_a0, q_a1, q_a2, q_a3, q_a4, q_a5⟩ := h_a.box
  obtain ⟨q_b0, q_b1, q_b2, q_b3, q_b4, q_b5⟩ := h_b.box
  obtain ⟨q_p0, q_p1, q_p2, q_p3, q_p4, q_p5⟩ := h_p.box
  go_wp2
  go_ret
  exact ⟨rfl, hA3.out⟩
set_option maxHeartbeats 4000000 in
theorem back_eight (a : Ck) (s : ByteArray) (ha : a.ok) (P : Ck) (k : Int) (hP : Hid (parseP s P k)) (hk : k = 8) (w : World) (hV : Vars w) : Calls Tryd.prog 3 #[a.val, .string s] w fun e w' => e = .returned (.bool true) ∧ Below w.heap.size w w' := by
  have h_a := inB_new w a
  have hB0 : Hid (Below w.heap.size w (w.alloc (objK a))) := boxed _ _
  have hVH : Hid (Vars w) := hV
  have c1 := text_any a ha
  have c2 : ∀ wx, Vars wx → Calls Tryd.prog 7 #[.string (textK a)] wx _ := fun wx h => parse_any (textK a) wx h a 0 (parse_text ha)
  have c3 : ∀ wx, Vars wx → Calls Tryd.prog 7 #[.string s] wx _ := fun wx h => parse_any s wx h P k hP
  have e1 := run_eqS a
  subst hk
  clear hP ha hV
  generalize textK a = tx at *
  go_enter Tryd.func3, Tryd.ntmps3
  go_wp2_with (first
    | (refine wpList_load_row rfl 23 _ rfl w.heap.size rfl _ _ _ _ h_a Tryd.underlying23 rfl infoK ?_))
  go_at_call 4
  refine (c1 _ (hVH.out.tb.later hB0.out)).mono ?_
  rintro e w1 ⟨rfl, hb1⟩
  replace h_a := h_a.later hb1
  have hB1 : Hid (Below w.heap.size w w1) := bthen hB0.out hb1
  clear hb1 hB0
  go_wp2_with (first
    | (refine wpList_load_row rfl 23 _ rfl w.heap.size rfl _ _ _ _ h_a Tryd.underlying23 rfl infoK ?_))
  go_at_call 7
  refine (c2 _ (hVH.out.later hB1.out)).mono ?_
  rintro e w2 ⟨rfl, hb2⟩
  replace h_a := h_a.later hb2
  have hB2 : Hid (Below w.heap.size w w2) := bthen hB1.out hb2
  clear hb2 hB1
  replace h_a := h_a.later (boxed w2 (objK a))
  have h_b := inB_new w2 a
  have hA2 : Hid (Below w.heap.size w (w2.alloc (objK a))) := bthen hB2.out (boxed _ _)
  clear hB2
  go_wp2_with (first
    | (refine wpList_load_row rfl 23 _ rfl w.heap.size rfl _ _ _ _ h_a Tryd.underlying23 rfl infoK ?_)
    | (refine wpList_load_row rfl 23 _ rfl w2.heap.size rfl _ _ _ _ h_b Tryd.underlying23 rfl infoK ?_))
  go_at_call 7
  refine (c3 _ (hVH.out.later hA2.out)).mono ?_
  rintro e w3 ⟨rfl, hb3⟩
  replace h_a := h_a.later hb3
  replace h_b := h_b.later hb3
  have hB3 : Hid (Below w.heap.size w w3) := bthen hA2.out hb3
  clear hb3 hA2
  replace h_a := h_a.later (boxed w3 (objK P))
  replace h_b := h_b.later (boxed w3 (objK P))
  have h_p := inB_new w3 P
  have hA3 : Hid (Below w.heap.size w (w3.alloc (objK P))) := bthen hB3.out (boxed _ _)
  clear hB3
  obtain ⟨q_a0, q_a1, q_a2, q_a3, q_a4, q_a5⟩ := h_a.box
  obtain ⟨q_b0, q_b1, q_b2, q_b3, q_b4, q_b5⟩ := h_b.box
  obtain ⟨q_p0, q_p1, q_p2, q_p3, q_p4, q_p5⟩ := h_p.box
  go_wp2
  go_ret
  exact ⟨rfl, hA3.out⟩
set_option maxHeartbeats 4000000 in
theorem back_same (a : Ck) (s : ByteArray) (ha : a.ok) (P : Ck) (k : Int) (hP : Hid (parseP s P k)) (hk : k = 0) (hp : P = a) (hs : s = textK a) (w : World) (hV : Vars w) : Calls Tryd.prog 3 #[a.val, .string s] w fun e w' => e = .returned (.bool true) ∧ Below w.heap.size w w' := by
  have h_a := inB_new w a
  have hB0 : Hid (Below w.heap.size w (w.alloc (objK a))) := boxed _ _
  have hVH : Hid (Vars w) := hV
  have c1 := text_any a ha
  have c2 : ∀ wx, Vars wx → Calls Tryd.prog 7 #[.string (textK a)] wx _ := fun wx h => parse_any (textK a) wx h a 0 (parse_text ha)
  have c3 : ∀ wx, Vars wx → Calls Tryd.prog 7 #[.string s] wx _ := fun wx h => parse_any s wx h P k hP
  have e1 := run_eqS a
  subst hk
  subst hp
  have hq : (s.toList == (textK P).toList) = true := (bytes_beq _ _).mpr hs
  have e2 : ∀ wx, (binOp .neq 23 P.val P.val).run Tryd.prog wx = .ok (.bool false) wx := fun wx => by rw [run_neK, (eqK_iff P P).mpr rfl]; rfl
  clear hP ha hV hs
  generalize textK P = tx at *
  go_enter Tryd.func3, Tryd.ntmps3
  go_wp2_with (first
    | (refine wpList_load_row rfl 23 _ rfl w.heap.size rfl _ _ _ _ h_a Tryd.underlying23 rfl infoK ?_))
  go_at_call 4
  refine (c1 _ (hVH.out.tb.later hB0.out)).mono ?_
  rintro e w1 ⟨rfl, hb1⟩
  replace h_a := h_a.later hb1
  have hB1 : Hid (Below w.heap.size w w1) := bthen hB0.out hb1
  clear hb1 hB0
  go_wp2_with (first
    | (refine wpList_load_row rfl 23 _ rfl w.heap.size rfl _ _ _ _ h_a Tryd.underlying23 rfl infoK ?_))
  go_at_call 7
  refine (c2 _ (hVH.out.later hB1.out)).mono ?_
  rintro e w2 ⟨rfl, hb2⟩
  replace h_a := h_a.later hb2
  have hB2 : Hid (Below w.heap.size w w2) := bthen hB1.out hb2
  clear hb2 hB1
  replace h_a := h_a.later (boxed w2 (objK P))
  have h_b := inB_new w2 P
  have hA2 : Hid (Below w.heap.size w (w2.alloc (objK P))) := bthen hB2.out (boxed _ _)
  clear hB2
  go_wp2_with (first
    | (refine wpList_load_row rfl 23 _ rfl w.heap.size rfl _ _ _ _ h_a Tryd.underlying23 rfl infoK ?_)
    | (refine wpList_load_row rfl 23 _ rfl w2.heap.size rfl _ _ _ _ h_b Tryd.underlying23 rfl infoK ?_))
  go_at_call 7
  refine (c3 _ (hVH.out.later hA2.out)).mono ?_
  rintro e w3 ⟨rfl, hb3⟩
  replace h_a := h_a.later hb3
  replace h_b := h_b.later hb3
  have hB3 : Hid (Below w.heap.size w w3) := bthen hA2.out hb3
  clear hb3 hA2
  replace h_a := h_a.later (boxed w3 (objK P))
  replace h_b := h_b.later (boxed w3 (objK P))
  have h_p := inB_new w3 P
  have hA3 : Hid (Below w.heap.size w (w3.alloc (objK P))) := bthen hB3.out (boxed _ _)
  clear hB3
  obtain ⟨q_a0, q_a1, q_a2, q_a3, q_a4, q_a5⟩ := h_a.box
  obtain ⟨q_b0, q_b1, q_b2, q_b3, q_b4, q_b5⟩ := h_b.box
  obtain ⟨q_p0, q_p1, q_p2, q_p3, q_p4, q_p5⟩ := h_p.box
  go_wp2
  go_ret
  exact ⟨rfl, hA3.out⟩
set_option maxHeartbeats 4000000 in
theorem back_else (a : Ck) (s : ByteArray) (ha : a.ok) (P : Ck) (k : Int) (hP : Hid (parseP s P k)) (hk : k = 0) (hp : P ≠ a) (w : World) (hV : Vars w) : Calls Tryd.prog 3 #[a.val, .string s] w fun e w' => e = .returned (.bool true) ∧ Below w.heap.size w w' := by
  have h_a := inB_new w a
  have hB0 : Hid (Below w.heap.size w (w.alloc (objK a))) := boxed _ _
  have hVH : Hid (Vars w) := hV
  have c1 := text_any a ha
  have c2 : ∀ wx, Vars wx → Calls Tryd.prog 7 #[.string (textK a)] wx _ := fun wx h => parse_any (textK a) wx h a 0 (parse_text ha)
  have c3 : ∀ wx, Vars wx → Calls Tryd.prog 7 #[.string s] wx _ := fun wx h => parse_any s wx h P k hP
  have e1 := run_eqS a
  subst hk
  have e2 : ∀ wx, (binOp .neq 23 P.val a.val).run Tryd.prog wx = .ok (.bool true) wx := fun wx => by rw [run_neK, Bool.eq_false_iff.mpr fun q => hp ((eqK_iff P a).mp q)]; rfl
  clear hP ha hV hp
  generalize textK a = tx at *
  go_enter Tryd.func3, Tryd.ntmps3
  go_wp2_with (first
    | (refine wpList_load_row rfl 23 _ rfl w.heap.size rfl _ _ _ _ h_a Tryd.underlying23 rfl infoK ?_))
  go_at_call 4
  refine (c1 _ (hVH.out.tb.later hB0.out)).mono ?_
  rintro e w1 ⟨rfl, hb1⟩
  replace h_a := h_a.later hb1
  have hB1 : Hid (Below w.heap.size w w1) := bthen hB0.out hb1
  clear hb1 hB0
  go_wp2_with (first
    | (refine wpList_load_row rfl 23 _ rfl w.heap.size rfl _ _ _ _ h_a Tryd.underlying23 rfl infoK ?_))
  go_at_call 7
  refine (c2 _ (hVH.out.later hB1.out)).mono ?_
  rintro e w2 ⟨rfl, hb2⟩
  replace h_a := h_a.later hb2
  have hB2 : Hid (Below w.heap.size w w2) := bthen hB1.out hb2
  clear hb2 hB1
  replace h_a := h_a.later (boxed w2 (objK a))
  have h_b := inB_new w2 a
  have hA2 : Hid (Below w.heap.size w (w2.alloc (objK a))) := bthen hB2.out (boxed _ _)
  clear hB2
  go_wp2_with (first
    | (refine wpList_load_row rfl 23 _ rfl w.heap.size rfl _ _ _ _ h_a Tryd.underlying23 rfl infoK ?_)
    | (refine wpList_load_row rfl 23 _ rfl w2.heap.size rfl _ _ _ _ h_b Tryd.underlying23 rfl infoK ?_))
  go_at_call 7
  refine (c3 _ (hVH.out.later hA2.out)).mono ?_
  rintro e w3 ⟨rfl, hb3⟩
  replace h_a := h_a.later hb3
  replace h_b := h_b.later hb3
  have hB3 : Hid (Below w.heap.size w w3) := bthen hA2.out hb3
  clear hb3 hA2
  replace h_a := h_a.later (boxed w3 (objK P))
  replace h_b := h_b.later (boxed w3 (objK P))
  have h_p := inB_new w3 P
  have hA3 : Hid (Below w.heap.size w (w3.alloc (objK P))) := bthen hB3.out (boxed _ _)
  clear hB3
  obtain ⟨q_a0, q_a1, q_a2, q_a3, q_a4, q_a5⟩ := h_a.box
  obtain ⟨q_b0, q_b1, q_b2, q_b3, q_b4, q_b5⟩ := h_b.box
  obtain ⟨q_p0, q_p1, q_p2, q_p3, q_p4, q_p5⟩ := h_p.box
  go_wp2
  go_ret
  exact ⟨rfl, hA3.out⟩
theorem back_any (a : Ck) (s : ByteArray) (w : World) (hV : Vars w) : Calls Tryd.prog 3 #[a.val, .string s] w fun e w' => e = .returned (.bool true) ∧ Below w.heap.size w w' := by
  by_cases ha : a.ok
  · obtain ⟨P, k, hP⟩ := parse_some s
    rcases id hP with ⟨_, _, hk⟩ | ⟨_, hp, hs, hk⟩ | ⟨_, _, _, hk⟩
    · exact back_two a s ha P k hP hk w hV
    · by_cases e : P = a
      · exact back_same a s ha P k hP hk e (e ▸ hs) w hV
      · exact back_else a s ha P k hP hk e w hV
    · exact back_eight a s ha P k hP hk w hV
  · exact back_bad a s ha w hV
end Go.Proofs.YtodkmmmbomoheabDoor.pg
