/- The walks of the statements on clocks: an order. -/
import Derived.Test.YtodkmmmbomoheaaDoorCk11
namespace Go.Proofs.YtodkmmmbomoheaaDoor.pg
open Go.ChangeShapes Go.WideShapes Go.ChangeAt Go.RowKit
set_option linter.unusedVariables false
set_option linter.unusedSimpArgs false
set_option maxRecDepth 100000
attribute [local go_sem ↓] Go.wp_at_zero Go.wp_at_succ
theorem turn_vals (a b : Ck) : cmpK a b = 0 ∧ cmpK b a = 0 ∨ cmpK a b = -1 ∧ cmpK b a = 1 ∨ cmpK a b = 1 ∧ cmpK b a = -1 ∨ cmpK a b = 2 ∧ cmpK b a = 2 := by
  rcases cmpK_cases a b with ⟨h1, h2⟩ | ⟨h1, h2, h3⟩ | ⟨h1, h2, h3, h4⟩ | ⟨h1, h2, h3, h4⟩
  · have : eqK b a = true := by rw [eqK_comm]; exact h1
    left; exact ⟨h2, by simp [cmpK, this]⟩
  · have e : eqK b a = false := by rw [eqK_comm]; exact h1
    have : leK b a = false := by
      rw [Bool.eq_false_iff]; intro q
      have := (eqK_iff a b).mpr (leK_anti h2 q)
      rw [h1] at this; cases this
    right; left; exact ⟨h3, by simp [cmpK, e, this, h2]⟩
  · have e : eqK b a = false := by rw [eqK_comm]; exact h1
    right; right; left; exact ⟨h4, by simp [cmpK, e, h3]⟩
  · have e : eqK b a = false := by rw [eqK_comm]; exact h1
    right; right; right; exact ⟨h4, by simp [cmpK, e, h3, h2]⟩
theorem cmp_zero (a b : Ck) : eqK a b = (cmpK a b == 0) := by
  rcases cmpK_cases a b with ⟨h1, h2⟩ | ⟨h1, h2, h3⟩ | ⟨h1, h2, h3, h4⟩ | ⟨h1, h2, h3, h4⟩ <;> simp_all
theorem cmp_minus (a b : Ck) : cmpK a b = -1 ↔ a ≠ b ∧ leK a b = true := by
  rcases cmpK_cases a b with ⟨h1, h2⟩ | ⟨h1, h2, h3⟩ | ⟨h1, h2, h3, h4⟩ | ⟨h1, h2, h3, h4⟩
  · rw [h2]; simp [(eqK_iff a b).mp h1]
  · rw [h3]
    have : a ≠ b := fun q => by have := (eqK_iff a b).mpr q; rw [h1] at this; cases this
    simp [this, h2]
  · rw [h4]; simp [h2]
  · rw [h4]; simp [h2]
theorem minus_trans {a b c : Ck} (h1 : cmpK a b = -1) (h2 : cmpK b c = -1) : cmpK a c = -1 := by
  rw [cmp_minus] at *
  refine ⟨fun q => ?_, leK_trans h1.2 h2.2⟩
  subst q
  exact h1.1 (leK_anti h1.2 h2.2)
theorem tick3_up {a T : Ck} {g : Int} (ha : a.ok) (h : tickP a 3 T g) : (g = 0 ∧ cmpK a T = -1 ∨ g = 2) ∧ T.ok := by
  rcases h with ⟨h, _, _⟩ | ⟨_, k, hk, h3, n, hn, ⟨_, rfl, rfl⟩ | ⟨hne, rfl, rfl⟩⟩
  · exact absurd ⟨ha, by omega, by omega⟩ h
  · exact ⟨.inr rfl, by rw [Ck.ok_iff]; simp [okC]⟩
  · have hk3 : k = 3 := by omega
    subst hk3
    have hn3 : n = a.c3 := by simpa [Ck.list] using hn.symm
    subst hn3
    have hb := ok_at ha hn
    refine ⟨.inl ⟨rfl, ?_⟩, ?_⟩
    · rw [cmp_minus]
      refine ⟨fun q => ?_, ?_⟩
      · have : a.c3 = (a.put 3 (a.c3 + 1)).c3 := congrArg Ck.c3 q
        simp only [Ck.put] at this
        omega
      · rw [leK_iff]; simp only [Ck.put]; omega
    · rw [Ck.ok_iff] at ha ⊢
      simp only [okC, Ck.put] at *
      omega
set_option maxHeartbeats 4000000 in
theorem order_bad (a b c : Ck) (hno : ¬ (a.ok ∧ b.ok ∧ c.ok)) (w : World) (hT : Tab w) : Calls Tryd.prog 8 #[a.val, b.val, c.val] w fun e w' => e = .returned (.bool true) ∧ Below w.heap.size w w' := by
  obtain ⟨h_a, h_b, h_c⟩ := boxes3c w a b c
  have hB0 : Hid (Below w.heap.size w (((w.alloc (objK a)).alloc (objK b)).alloc (objK c))) := boxed3 _ _ _ _
  have hTH : Hid (Tab w) := hT
  by_cases hab : a.ok ∧ b.ok
  · have hcc : ¬ (c.ok ∧ c.ok) := fun q => hno ⟨hab.1, hab.2, q.1⟩
    have c1 := bad_ok a b hab.1 hab.2
    have c2 := bad_bad c c hcc
    have c3 := small_any
    clear hno hab hcc hT
    go_enter Tryd.func8, Tryd.ntmps8
    go_wp2_with (first
      | (refine wpList_load_row rfl 23 _ rfl w.heap.size rfl _ _ _ _ h_a Tryd.underlying23 rfl infoK ?_)
      | (refine wpList_load_row rfl 23 _ rfl (w.heap.size + 1) rfl _ _ _ _ h_b Tryd.underlying23 rfl infoK ?_)
      | (refine wpList_load_row rfl 23 _ rfl (w.heap.size + 2) rfl _ _ _ _ h_c Tryd.underlying23 rfl infoK ?_))
    go_at_call 12
    refine (c1 _).mono ?_
    rintro e w1 ⟨rfl, hb1⟩
    replace h_a := h_a.later hb1
    replace h_b := h_b.later hb1
    replace h_c := h_c.later hb1
    have hB1 : Hid (Below w.heap.size w w1) := bthen hB0.out hb1
    clear hb1 hB0
    obtain ⟨q_c0, q_c1, q_c2, q_c3, q_c4, q_c5⟩ := h_c.box
    go_wp2_with (first
      | (refine wpList_load_row rfl 23 _ rfl w.heap.size rfl _ _ _ _ h_a Tryd.underlying23 rfl infoK ?_)
      | (refine wpList_load_row rfl 23 _ rfl (w.heap.size + 1) rfl _ _ _ _ h_b Tryd.underlying23 rfl infoK ?_)
      | (refine wpList_load_row rfl 23 _ rfl (w.heap.size + 2) rfl _ _ _ _ h_c Tryd.underlying23 rfl infoK ?_))
    go_at_call 12
    refine (c2 _).mono ?_
    rintro e w2 ⟨rfl, hb2⟩
    replace h_a := h_a.later hb2
    replace h_b := h_b.later hb2
    replace h_c := h_c.later hb2
    have hB2 : Hid (Below w.heap.size w w2) := bthen hB1.out hb2
    clear hb2 hB1
    go_wp2_with (first
      | (refine wpList_load_row rfl 23 _ rfl w.heap.size rfl _ _ _ _ h_a Tryd.underlying23 rfl infoK ?_)
      | (refine wpList_load_row rfl 23 _ rfl (w.heap.size + 1) rfl _ _ _ _ h_b Tryd.underlying23 rfl infoK ?_)
      | (refine wpList_load_row rfl 23 _ rfl (w.heap.size + 2) rfl _ _ _ _ h_c Tryd.underlying23 rfl infoK ?_))
    go_at_call 14
    refine (c3 _ (hTH.out.later hB2.out)).mono ?_
    rintro e w3 ⟨rfl, hb3⟩
    replace h_a := h_a.later hb3
    replace h_b := h_b.later hb3
    replace h_c := h_c.later hb3
    have hB3 : Hid (Below w.heap.size w w3) := bthen hB2.out hb3
    clear hb3 hB2
    go_wp2
    go_ret
    exact ⟨rfl, hB3.out⟩
  · have c1 := bad_bad a b hab
    have c3 := small_any
    clear hno hab hT
    go_enter Tryd.func8, Tryd.ntmps8
    go_wp2_with (first
      | (refine wpList_load_row rfl 23 _ rfl w.heap.size rfl _ _ _ _ h_a Tryd.underlying23 rfl infoK ?_)
      | (refine wpList_load_row rfl 23 _ rfl (w.heap.size + 1) rfl _ _ _ _ h_b Tryd.underlying23 rfl infoK ?_)
      | (refine wpList_load_row rfl 23 _ rfl (w.heap.size + 2) rfl _ _ _ _ h_c Tryd.underlying23 rfl infoK ?_))
    go_at_call 12
    refine (c1 _).mono ?_
    rintro e w1 ⟨rfl, hb1⟩
    replace h_a := h_a.later hb1
    replace h_b := h_b.later hb1
    replace h_c := h_c.later hb1
    have hB1 : Hid (Below w.heap.size w w1) := bthen hB0.out hb1
    clear hb1 hB0
    go_wp2_with (first
      | (refine wpList_load_row rfl 23 _ rfl w.heap.size rfl _ _ _ _ h_a Tryd.underlying23 rfl infoK ?_)
      | (refine wpList_load_row rfl 23 _ rfl (w.heap.size + 1) rfl _ _ _ _ h_b Tryd.underlying23 rfl infoK ?_)
      | (refine wpList_load_row rfl 23 _ rfl (w.heap.size + 2) rfl _ _ _ _ h_c Tryd.underlying23 rfl infoK ?_))
    go_at_call 14
    refine (c3 _ (hTH.out.later hB1.out)).mono ?_
    rintro e w2 ⟨rfl, hb2⟩
    replace h_a := h_a.later hb2
    replace h_b := h_b.later hb2
    replace h_c := h_c.later hb2
    have hB2 : Hid (Below w.heap.size w w2) := bthen hB1.out hb2
    clear hb2 hB1
    go_wp2
    go_ret
    exact ⟨rfl, hB2.out⟩
set_option maxHeartbeats 4000000 in
theorem order_ok (a b c : Ck) (ha : a.ok) (hb : b.ok) (hc : c.ok) (w : World) (hT : Tab w) : Calls Tryd.prog 8 #[a.val, b.val, c.val] w fun e w' => e = .returned (.bool true) ∧ Below w.heap.size w w' := by
  obtain ⟨h_a, h_b, h_c⟩ := boxes3c w a b c
  have hB0 : Hid (Below w.heap.size w (((w.alloc (objK a)).alloc (objK b)).alloc (objK c))) := boxed3 _ _ _ _
  have hTH : Hid (Tab w) := hT
  have cb1 := bad_ok a b ha hb
  have cb2 := bad_ok c c hc hc
  obtain ⟨ab, eab⟩ : ∃ R, Hid (R = cmpK a b) := ⟨_, rfl⟩
  have d1 : ∀ wx, Calls Tryd.prog 11 #[a.val, b.val] wx fun e w' => e = .returned (.tuple #[.int .i64 ab, .int .i64 0]) ∧ Below wx.heap.size wx w' := fun wx => cmp_any' a b ha hb wx ab eab
  obtain ⟨ba, eba⟩ : ∃ R, Hid (R = cmpK b a) := ⟨_, rfl⟩
  have d2 : ∀ wx, Calls Tryd.prog 11 #[b.val, a.val] wx fun e w' => e = .returned (.tuple #[.int .i64 ba, .int .i64 0]) ∧ Below wx.heap.size wx w' := fun wx => cmp_any' b a hb ha wx ba eba
  obtain ⟨bc, ebc⟩ : ∃ R, Hid (R = cmpK b c) := ⟨_, rfl⟩
  have d3 : ∀ wx, Calls Tryd.prog 11 #[b.val, c.val] wx fun e w' => e = .returned (.tuple #[.int .i64 bc, .int .i64 0]) ∧ Below wx.heap.size wx w' := fun wx => cmp_any' b c hb hc wx bc ebc
  obtain ⟨ac, eac⟩ : ∃ R, Hid (R = cmpK a c) := ⟨_, rfl⟩
  have d4 : ∀ wx, Calls Tryd.prog 11 #[a.val, c.val] wx fun e w' => e = .returned (.tuple #[.int .i64 ac, .int .i64 0]) ∧ Below wx.heap.size wx w' := fun wx => cmp_any' a c ha hc wx ac eac
  obtain ⟨T, g, hTk⟩ := tick_some a 3
  have hT3 := tick3_up ha hTk
  have c1 : ∀ wx, Calls Tryd.prog 18 #[a.val, .int .i64 3] wx fun e w' => e = .returned (.tuple #[T.val, .int .i64 g]) ∧ Below wx.heap.size wx w' := fun wx => tick_any a 3 T g hTk wx
  have hTok := hT3.2
  obtain ⟨av, eav⟩ : ∃ R, Hid (R = cmpK a T) := ⟨_, rfl⟩
  have d5 : ∀ wx, Calls Tryd.prog 11 #[a.val, T.val] wx fun e w' => e = .returned (.tuple #[.int .i64 av, .int .i64 0]) ∧ Below wx.heap.size wx w' := fun wx => cmp_any' a T ha hTok wx av eav
  have heq : ∀ wx, (binOp .eql 23 a.val b.val).run Tryd.prog wx = .ok (.bool (ab == 0)) wx := fun wx => by rw [run_eqK, cmp_zero, eab.out]
  have v1 : Hid (ab = 0 ∧ ba = 0 ∨ ab = -1 ∧ ba = 1 ∨ ab = 1 ∧ ba = -1 ∨ ab = 2 ∧ ba = 2) := by rw [eab.out, eba.out]; exact turn_vals a b
  have v2 : Hid (ab = -1 → bc = -1 → ac = -1) := fun h1 h2 => by rw [eab.out] at h1; rw [ebc.out] at h2; rw [eac.out]; exact minus_trans h1 h2
  have v5 : Hid (bc = 0 ∨ bc = -1 ∨ bc = 1 ∨ bc = 2) := by rw [ebc.out]; exact cmp_vals b c
  have v3 : Hid (g = 0 ∧ av = -1 ∨ g = 2) := by rw [eav.out]; exact hT3.1
  clear ha hb hc hT hTk hT3 hTok eab eba ebc eac eav
  go_enter Tryd.func8, Tryd.ntmps8
  go_wp2_with (first
    | (refine wpList_load_row rfl 23 _ rfl w.heap.size rfl _ _ _ _ h_a Tryd.underlying23 rfl infoK ?_)
    | (refine wpList_load_row rfl 23 _ rfl (w.heap.size + 1) rfl _ _ _ _ h_b Tryd.underlying23 rfl infoK ?_)
    | (refine wpList_load_row rfl 23 _ rfl (w.heap.size + 2) rfl _ _ _ _ h_c Tryd.underlying23 rfl infoK ?_))
  go_at_call 12
  refine (cb1 _).mono ?_
  rintro e w1 ⟨rfl, hb1⟩
  replace h_a := h_a.later hb1
  replace h_b := h_b.later hb1
  replace h_c := h_c.later hb1
  have hB1 : Hid (Below w.heap.size w w1) := bthen hB0.out hb1
  clear hb1 hB0
  obtain ⟨q_c0, q_c1, q_c2, q_c3, q_c4, q_c5⟩ := h_c.box
  go_wp2_with (first
    | (refine wpList_load_row rfl 23 _ rfl w.heap.size rfl _ _ _ _ h_a Tryd.underlying23 rfl infoK ?_)
    | (refine wpList_load_row rfl 23 _ rfl (w.heap.size + 1) rfl _ _ _ _ h_b Tryd.underlying23 rfl infoK ?_)
    | (refine wpList_load_row rfl 23 _ rfl (w.heap.size + 2) rfl _ _ _ _ h_c Tryd.underlying23 rfl infoK ?_))
  go_at_call 12
  refine (cb2 _).mono ?_
  rintro e w2 ⟨rfl, hb2⟩
  replace h_a := h_a.later hb2
  replace h_b := h_b.later hb2
  replace h_c := h_c.later hb2
  have hB2 : Hid (Below w.heap.size w w2) := bthen hB1.out hb2
  clear hb2 hB1
  clear q_c0 q_c1 q_c2 q_c3 q_c4 q_c5
  go_wp2_with (first
    | (refine wpList_load_row rfl 23 _ rfl w.heap.size rfl _ _ _ _ h_a Tryd.underlying23 rfl infoK ?_)
    | (refine wpList_load_row rfl 23 _ rfl (w.heap.size + 1) rfl _ _ _ _ h_b Tryd.underlying23 rfl infoK ?_)
    | (refine wpList_load_row rfl 23 _ rfl (w.heap.size + 2) rfl _ _ _ _ h_c Tryd.underlying23 rfl infoK ?_))
  go_at_call 11
  refine (d1 _).mono ?_
  rintro e w3 ⟨rfl, hb3⟩
  replace h_a := h_a.later hb3
  replace h_b := h_b.later hb3
  replace h_c := h_c.later hb3
  have hB3 : Hid (Below w.heap.size w w3) := bthen hB2.out hb3
  clear hb3 hB2
  go_wp2_with (first
    | (refine wpList_load_row rfl 23 _ rfl w.heap.size rfl _ _ _ _ h_a Tryd.underlying23 rfl infoK ?_)
    | (refine wpList_load_row rfl 23 _ rfl (w.heap.size + 1) rfl _ _ _ _ h_b Tryd.underlying23 rfl infoK ?_)
    | (refine wpList_load_row rfl 23 _ rfl (w.heap.size + 2) rfl _ _ _ _ h_c Tryd.underlying23 rfl infoK ?_))
  go_at_call 11
  refine (d2 _).mono ?_
  rintro e w4 ⟨rfl, hb4⟩
  replace h_a := h_a.later hb4
  replace h_b := h_b.later hb4
  replace h_c := h_c.later hb4
  have hB4 : Hid (Below w.heap.size w w4) := bthen hB3.out hb4
  clear hb4 hB3
  go_wp2_with (first
    | (refine wpList_load_row rfl 23 _ rfl w.heap.size rfl _ _ _ _ h_a Tryd.underlying23 rfl infoK ?_)
    | (refine wpList_load_row rfl 23 _ rfl (w.heap.size + 1) rfl _ _ _ _ h_b Tryd.underlying23 rfl infoK ?_)
    | (refine wpList_load_row rfl 23 _ rfl (w.heap.size + 2) rfl _ _ _ _ h_c Tryd.underlying23 rfl infoK ?_))
  go_at_call 11
  refine (d3 _).mono ?_
  rintro e w5 ⟨rfl, hb5⟩
  replace h_a := h_a.later hb5
  replace h_b := h_b.later hb5
  replace h_c := h_c.later hb5
  have hB5 : Hid (Below w.heap.size w w5) := bthen hB4.out hb5
  clear hb5 hB4
  go_wp2_with (first
    | (refine wpList_load_row rfl 23 _ rfl w.heap.size rfl _ _ _ _ h_a Tryd.underlying23 rfl infoK ?_)
    | (refine wpList_load_row rfl 23 _ rfl (w.heap.size + 1) rfl _ _ _ _ h_b Tryd.underlying23 rfl infoK ?_)
    | (refine wpList_load_row rfl 23 _ rfl (w.heap.size + 2) rfl _ _ _ _ h_c Tryd.underlying23 rfl infoK ?_))
  go_at_call 11
  refine (d4 _).mono ?_
  rintro e w6 ⟨rfl, hb6⟩
  replace h_a := h_a.later hb6
  replace h_b := h_b.later hb6
  replace h_c := h_c.later hb6
  have hB6 : Hid (Below w.heap.size w w6) := bthen hB5.out hb6
  clear hb6 hB5
  obtain hv := v1.out
  have hv3 := v3.out
  rcases hv with ⟨rfl, rfl⟩ | ⟨rfl, rfl⟩ | ⟨rfl, rfl⟩ | ⟨rfl, rfl⟩
  · rcases hv3 with ⟨rfl, rfl⟩ | rfl
    · go_wp2_with (first
        | (refine wpList_load_row rfl 23 _ rfl w.heap.size rfl _ _ _ _ h_a Tryd.underlying23 rfl infoK ?_)
        | (refine wpList_load_row rfl 23 _ rfl (w.heap.size + 1) rfl _ _ _ _ h_b Tryd.underlying23 rfl infoK ?_)
        | (refine wpList_load_row rfl 23 _ rfl (w.heap.size + 2) rfl _ _ _ _ h_c Tryd.underlying23 rfl infoK ?_))
      go_at_call 18
      refine (c1 _).mono ?_
      rintro e w7 ⟨rfl, hb7⟩
      replace h_a := h_a.later hb7
      replace h_b := h_b.later hb7
      replace h_c := h_c.later hb7
      have hB7 : Hid (Below w.heap.size w w7) := bthen hB6.out hb7
      clear hb7 hB6
      replace h_a := h_a.later (boxed w7 (objK T))
      replace h_b := h_b.later (boxed w7 (objK T))
      replace h_c := h_c.later (boxed w7 (objK T))
      have h_t := inB_new w7 T
      have hA7 : Hid (Below w.heap.size w (w7.alloc (objK T))) := bthen hB7.out (boxed _ _)
      clear hB7
      go_wp2_with (first
        | (refine wpList_load_row rfl 23 _ rfl w.heap.size rfl _ _ _ _ h_a Tryd.underlying23 rfl infoK ?_)
        | (refine wpList_load_row rfl 23 _ rfl (w.heap.size + 1) rfl _ _ _ _ h_b Tryd.underlying23 rfl infoK ?_)
        | (refine wpList_load_row rfl 23 _ rfl (w.heap.size + 2) rfl _ _ _ _ h_c Tryd.underlying23 rfl infoK ?_)
        | (refine wpList_load_row rfl 23 _ rfl w7.heap.size rfl _ _ _ _ h_t Tryd.underlying23 rfl infoK ?_))
      go_at_call 11
      refine (d5 _).mono ?_
      rintro e w8 ⟨rfl, hb8⟩
      replace h_a := h_a.later hb8
      replace h_b := h_b.later hb8
      replace h_c := h_c.later hb8
      replace h_t := h_t.later hb8
      have hB8 : Hid (Below w.heap.size w w8) := bthen hA7.out hb8
      clear hb8 hA7
      obtain ⟨q_a0, q_a1, q_a2, q_a3, q_a4, q_a5⟩ := h_a.box
      obtain ⟨q_b0, q_b1, q_b2, q_b3, q_b4, q_b5⟩ := h_b.box
      go_wp2
      go_ret
      exact ⟨rfl, hB8.out⟩
    · go_wp2_with (first
        | (refine wpList_load_row rfl 23 _ rfl w.heap.size rfl _ _ _ _ h_a Tryd.underlying23 rfl infoK ?_)
        | (refine wpList_load_row rfl 23 _ rfl (w.heap.size + 1) rfl _ _ _ _ h_b Tryd.underlying23 rfl infoK ?_)
        | (refine wpList_load_row rfl 23 _ rfl (w.heap.size + 2) rfl _ _ _ _ h_c Tryd.underlying23 rfl infoK ?_))
      go_at_call 18
      refine (c1 _).mono ?_
      rintro e w7 ⟨rfl, hb7⟩
      replace h_a := h_a.later hb7
      replace h_b := h_b.later hb7
      replace h_c := h_c.later hb7
      have hB7 : Hid (Below w.heap.size w w7) := bthen hB6.out hb7
      clear hb7 hB6
      replace h_a := h_a.later (boxed w7 (objK T))
      replace h_b := h_b.later (boxed w7 (objK T))
      replace h_c := h_c.later (boxed w7 (objK T))
      have h_t := inB_new w7 T
      have hA7 : Hid (Below w.heap.size w (w7.alloc (objK T))) := bthen hB7.out (boxed _ _)
      clear hB7
      go_wp2_with (first
        | (refine wpList_load_row rfl 23 _ rfl w.heap.size rfl _ _ _ _ h_a Tryd.underlying23 rfl infoK ?_)
        | (refine wpList_load_row rfl 23 _ rfl (w.heap.size + 1) rfl _ _ _ _ h_b Tryd.underlying23 rfl infoK ?_)
        | (refine wpList_load_row rfl 23 _ rfl (w.heap.size + 2) rfl _ _ _ _ h_c Tryd.underlying23 rfl infoK ?_)
        | (refine wpList_load_row rfl 23 _ rfl w7.heap.size rfl _ _ _ _ h_t Tryd.underlying23 rfl infoK ?_))
      go_at_call 11
      refine (d5 _).mono ?_
      rintro e w8 ⟨rfl, hb8⟩
      replace h_a := h_a.later hb8
      replace h_b := h_b.later hb8
      replace h_c := h_c.later hb8
      replace h_t := h_t.later hb8
      have hB8 : Hid (Below w.heap.size w w8) := bthen hA7.out hb8
      clear hb8 hA7
      obtain ⟨q_a0, q_a1, q_a2, q_a3, q_a4, q_a5⟩ := h_a.box
      obtain ⟨q_b0, q_b1, q_b2, q_b3, q_b4, q_b5⟩ := h_b.box
      go_wp2
      go_ret
      exact ⟨rfl, hB8.out⟩
  · rcases hv3 with ⟨rfl, rfl⟩ | rfl
    · have hb5 := v5.out
      rcases hb5 with rfl | rfl | rfl | rfl
      · go_wp2_with (first
          | (refine wpList_load_row rfl 23 _ rfl w.heap.size rfl _ _ _ _ h_a Tryd.underlying23 rfl infoK ?_)
          | (refine wpList_load_row rfl 23 _ rfl (w.heap.size + 1) rfl _ _ _ _ h_b Tryd.underlying23 rfl infoK ?_)
          | (refine wpList_load_row rfl 23 _ rfl (w.heap.size + 2) rfl _ _ _ _ h_c Tryd.underlying23 rfl infoK ?_))
        go_at_call 18
        refine (c1 _).mono ?_
        rintro e w7 ⟨rfl, hb7⟩
        replace h_a := h_a.later hb7
        replace h_b := h_b.later hb7
        replace h_c := h_c.later hb7
        have hB7 : Hid (Below w.heap.size w w7) := bthen hB6.out hb7
        clear hb7 hB6
        replace h_a := h_a.later (boxed w7 (objK T))
        replace h_b := h_b.later (boxed w7 (objK T))
        replace h_c := h_c.later (boxed w7 (objK T))
        have h_t := inB_new w7 T
        have hA7 : Hid (Below w.heap.size w (w7.alloc (objK T))) := bthen hB7.out (boxed _ _)
        clear hB7
        go_wp2_with (first
          | (refine wpList_load_row rfl 23 _ rfl w.heap.size rfl _ _ _ _ h_a Tryd.underlying23 rfl infoK ?_)
          | (refine wpList_load_row rfl 23 _ rfl (w.heap.size + 1) rfl _ _ _ _ h_b Tryd.underlying23 rfl infoK ?_)
          | (refine wpList_load_row rfl 23 _ rfl (w.heap.size + 2) rfl _ _ _ _ h_c Tryd.underlying23 rfl infoK ?_)
          | (refine wpList_load_row rfl 23 _ rfl w7.heap.size rfl _ _ _ _ h_t Tryd.underlying23 rfl infoK ?_))
        go_at_call 11
        refine (d5 _).mono ?_
        rintro e w8 ⟨rfl, hb8⟩
        replace h_a := h_a.later hb8
        replace h_b := h_b.later hb8
        replace h_c := h_c.later hb8
        replace h_t := h_t.later hb8
        have hB8 : Hid (Below w.heap.size w w8) := bthen hA7.out hb8
        clear hb8 hA7
        obtain ⟨q_a0, q_a1, q_a2, q_a3, q_a4, q_a5⟩ := h_a.box
        obtain ⟨q_b0, q_b1, q_b2, q_b3, q_b4, q_b5⟩ := h_b.box
        go_wp2
        go_ret
        exact ⟨rfl, hB8.out⟩
      · have hac := v2.out rfl rfl
        subst hac
        go_wp2_with (first
          | (refine wpList_load_row rfl 23 _ rfl w.heap.size rfl _ _ _ _ h_a Tryd.underlying23 rfl infoK ?_)
          | (refine wpList_load_row rfl 23 _ rfl (w.heap.size + 1) rfl _ _ _ _ h_b Tryd.underlying23 rfl infoK ?_)
          | (refine wpList_load_row rfl 23 _ rfl (w.heap.size + 2) rfl _ _ _ _ h_c Tryd.underlying23 rfl infoK ?_))
        go_at_call 18
        refine (c1 _).mono ?_
        rintro e w7 ⟨rfl, hb7⟩
        replace h_a := h_a.later hb7
        replace h_b := h_b.later hb7
        replace h_c := h_c.later hb7
        have hB7 : Hid (Below w.heap.size w w7) := bthen hB6.out hb7
        clear hb7 hB6
        replace h_a := h_a.later (boxed w7 (objK T))
        replace h_b := h_b.later (boxed w7 (objK T))
        replace h_c := h_c.later (boxed w7 (objK T))
        have h_t := inB_new w7 T
        have hA7 : Hid (Below w.heap.size w (w7.alloc (objK T))) := bthen hB7.out (boxed _ _)
        clear hB7
        go_wp2_with (first
          | (refine wpList_load_row rfl 23 _ rfl w.heap.size rfl _ _ _ _ h_a Tryd.underlying23 rfl infoK ?_)
          | (refine wpList_load_row rfl 23 _ rfl (w.heap.size + 1) rfl _ _ _ _ h_b Tryd.underlying23 rfl infoK ?_)
          | (refine wpList_load_row rfl 23 _ rfl (w.heap.size + 2) rfl _ _ _ _ h_c Tryd.underlying23 rfl infoK ?_)
          | (refine wpList_load_row rfl 23 _ rfl w7.heap.size rfl _ _ _ _ h_t Tryd.underlying23 rfl infoK ?_))
        go_at_call 11
        refine (d5 _).mono ?_
        rintro e w8 ⟨rfl, hb8⟩
        replace h_a := h_a.later hb8
        replace h_b := h_b.later hb8
        replace h_c := h_c.later hb8
        replace h_t := h_t.later hb8
        have hB8 : Hid (Below w.heap.size w w8) := bthen hA7.out hb8
        clear hb8 hA7
        obtain ⟨q_a0, q_a1, q_a2, q_a3, q_a4, q_a5⟩ := h_a.box
        obtain ⟨q_b0, q_b1, q_b2, q_b3, q_b4, q_b5⟩ := h_b.box
        go_wp2
        go_ret
        exact ⟨rfl, hB8.out⟩
      · go_wp2_with (first
          | (refine wpList_load_row rfl 23 _ rfl w.heap.size rfl _ _ _ _ h_a Tryd.underlying23 rfl infoK ?_)
          | (refine wpList_load_row rfl 23 _ rfl (w.heap.size + 1) rfl _ _ _ _ h_b Tryd.underlying23 rfl infoK ?_)
          | (refine wpList_load_row rfl 23 _ rfl (w.heap.size + 2) rfl _ _ _ _ h_c Tryd.underlying23 rfl infoK ?_))
        go_at_call 18
        refine (c1 _).mono ?_
        rintro e w7 ⟨rfl, hb7⟩
        replace h_a := h_a.later hb7
        replace h_b := h_b.later hb7
        replace h_c := h_c.later hb7
        have hB7 : Hid (Below w.heap.size w w7) := bthen hB6.out hb7
        clear hb7 hB6
        replace h_a := h_a.later (boxed w7 (objK T))
        replace h_b := h_b.later (boxed w7 (objK T))
        replace h_c := h_c.later (boxed w7 (objK T))
        have h_t := inB_new w7 T
        have hA7 : Hid (Below w.heap.size w (w7.alloc (objK T))) := bthen hB7.out (boxed _ _)
        clear hB7
        go_wp2_with (first
          | (refine wpList_load_row rfl 23 _ rfl w.heap.size rfl _ _ _ _ h_a Tryd.underlying23 rfl infoK ?_)
          | (refine wpList_load_row rfl 23 _ rfl (w.heap.size + 1) rfl _ _ _ _ h_b Tryd.underlying23 rfl infoK ?_)
          | (refine wpList_load_row rfl 23 _ rfl (w.heap.size + 2) rfl _ _ _ _ h_c Tryd.underlying23 rfl infoK ?_)
          | (refine wpList_load_row rfl 23 _ rfl w7.heap.size rfl _ _ _ _ h_t Tryd.underlying23 rfl infoK ?_))
        go_at_call 11
        refine (d5 _).mono ?_
        rintro e w8 ⟨rfl, hb8⟩
        replace h_a := h_a.later hb8
        replace h_b := h_b.later hb8
        replace h_c := h_c.later hb8
        replace h_t := h_t.later hb8
        have hB8 : Hid (Below w.heap.size w w8) := bthen hA7.out hb8
        clear hb8 hA7
        obtain ⟨q_a0, q_a1, q_a2, q_a3, q_a4, q_a5⟩ := h_a.box
        obtain ⟨q_b0, q_b1, q_b2, q_b3, q_b4, q_b5⟩ := h_b.box
        go_wp2
        go_ret
        exact ⟨rfl, hB8.out⟩
      · go_wp2_with (first
          | (refine wpList_load_row rfl 23 _ rfl w.heap.size rfl _ _ _ _ h_a Tryd.underlying23 rfl infoK ?_)
          | (refine wpList_load_row rfl 23 _ rfl (w.heap.size + 1) rfl _ _ _ _ h_b Tryd.underlying23 rfl infoK ?_)
          | (refine wpList_load_row rfl 23 _ rfl (w.heap.size + 2) rfl _ _ _ _ h_c Tryd.underlying23 rfl infoK ?_))
        go_at_call 18
        refine (c1 _).mono ?_
        rintro e w7 ⟨rfl, hb7⟩
        replace h_a := h_a.later hb7
        replace h_b := h_b.later hb7
        replace h_c := h_c.later hb7
        have hB7 : Hid (Below w.heap.size w w7) := bthen hB6.out hb7
        clear hb7 hB6
        replace h_a := h_a.later (boxed w7 (objK T))
        replace h_b := h_b.later (boxed w7 (objK T))
        replace h_c := h_c.later (boxed w7 (objK T))
        have h_t := inB_new w7 T
        have hA7 : Hid (Below w.heap.size w (w7.alloc (objK T))) := bthen hB7.out (boxed _ _)
        clear hB7
        go_wp2_with (first
          | (refine wpList_load_row rfl 23 _ rfl w.heap.size rfl _ _ _ _ h_a Tryd.underlying23 rfl infoK ?_)
          | (refine wpList_load_row rfl 23 _ rfl (w.heap.size + 1) rfl _ _ _ _ h_b Tryd.underlying23 rfl infoK ?_)
          | (refine wpList_load_row rfl 23 _ rfl (w.heap.size + 2) rfl _ _ _ _ h_c Tryd.underlying23 rfl infoK ?_)
          | (refine wpList_load_row rfl 23 _ rfl w7.heap.size rfl _ _ _ _ h_t Tryd.underlying23 rfl infoK ?_))
        go_at_call 11
        refine (d5 _).mono ?_
        rintro e w8 ⟨rfl, hb8⟩
        replace h_a := h_a.later hb8
        replace h_b := h_b.later hb8
        replace h_c := h_c.later hb8
        replace h_t := h_t.later hb8
        have hB8 : Hid (Below w.heap.size w w8) := bthen hA7.out hb8
        clear hb8 hA7
        obtain ⟨q_a0, q_a1, q_a2, q_a3, q_a4, q_a5⟩ := h_a.box
        obtain ⟨q_b0, q_b1, q_b2, q_b3, q_b4, q_b5⟩ := h_b.box
        go_wp2
        go_ret
        exact ⟨rfl, hB8.out⟩
    · have hb5 := v5.out
      rcases hb5 with rfl | rfl | rfl | rfl
      · go_wp2_with (first
          | (refine wpList_load_row rfl 23 _ rfl w.heap.size rfl _ _ _ _ h_a Tryd.underlying23 rfl infoK ?_)
          | (refine wpList_load_row rfl 23 _ rfl (w.heap.size + 1) rfl _ _ _ _ h_b Tryd.underlying23 rfl infoK ?_)
          | (refine wpList_load_row rfl 23 _ rfl (w.heap.size + 2) rfl _ _ _ _ h_c Tryd.underlying23 rfl infoK ?_))
        go_at_call 18
        refine (c1 _).mono ?_
        rintro e w7 ⟨rfl, hb7⟩
        replace h_a := h_a.later hb7
        replace h_b := h_b.later hb7
        replace h_c := h_c.later hb7
        have hB7 : Hid (Below w.heap.size w w7) := bthen hB6.out hb7
        clear hb7 hB6
        replace h_a := h_a.later (boxed w7 (objK T))
        replace h_b := h_b.later (boxed w7 (objK T))
        replace h_c := h_c.later (boxed w7 (objK T))
        have h_t := inB_new w7 T
        have hA7 : Hid (Below w.heap.size w (w7.alloc (objK T))) := bthen hB7.out (boxed _ _)
        clear hB7
        go_wp2_with (first
          | (refine wpList_load_row rfl 23 _ rfl w.heap.size rfl _ _ _ _ h_a Tryd.underlying23 rfl infoK ?_)
          | (refine wpList_load_row rfl 23 _ rfl (w.heap.size + 1) rfl _ _ _ _ h_b Tryd.underlying23 rfl infoK ?_)
          | (refine wpList_load_row rfl 23 _ rfl (w.heap.size + 2) rfl _ _ _ _ h_c Tryd.underlying23 rfl infoK ?_)
          | (refine wpList_load_row rfl 23 _ rfl w7.heap.size rfl _ _ _ _ h_t Tryd.underlying23 rfl infoK ?_))
        go_at_call 11
        refine (d5 _).mono ?_
        rintro e w8 ⟨rfl, hb8⟩
        replace h_a := h_a.later hb8
        replace h_b := h_b.later hb8
        replace h_c := h_c.later hb8
        replace h_t := h_t.later hb8
        have hB8 : Hid (Below w.heap.size w w8) := bthen hA7.out hb8
        clear hb8 hA7
        obtain ⟨q_a0, q_a1, q_a2, q_a3, q_a4, q_a5⟩ := h_a.box
        obtain ⟨q_b0, q_b1, q_b2, q_b3, q_b4, q_b5⟩ := h_b.box
        go_wp2
        go_ret
        exact ⟨rfl, hB8.out⟩
      · have hac := v2.out rfl rfl
        subst hac
        go_wp2_with (first
          | (refine wpList_load_row rfl 23 _ rfl w.heap.size rfl _ _ _ _ h_a Tryd.underlying23 rfl infoK ?_)
          | (refine wpList_load_row rfl 23 _ rfl (w.heap.size + 1) rfl _ _ _ _ h_b Tryd.underlying23 rfl infoK ?_)
          | (refine wpList_load_row rfl 23 _ rfl (w.heap.size + 2) rfl _ _ _ _ h_c Tryd.underlying23 rfl infoK ?_))
        go_at_call 18
        refine (c1 _).mono ?_
        rintro e w7 ⟨rfl, hb7⟩
        replace h_a := h_a.later hb7
        replace h_b := h_b.later hb7
        replace h_c := h_c.later hb7
        have hB7 : Hid (Below w.heap.size w w7) := bthen hB6.out hb7
        clear hb7 hB6
        replace h_a := h_a.later (boxed w7 (objK T))
        replace h_b := h_b.later (boxed w7 (objK T))
        replace h_c := h_c.later (boxed w7 (objK T))
        have h_t := inB_new w7 T
        have hA7 : Hid (Below w.heap.size w (w7.alloc (objK T))) := bthen hB7.out (boxed _ _)
        clear hB7
        go_wp2_with (first
          | (refine wpList_load_row rfl 23 _ rfl w.heap.size rfl _ _ _ _ h_a Tryd.underlying23 rfl infoK ?_)
          | (refine wpList_load_row rfl 23 _ rfl (w.heap.size + 1) rfl _ _ _ _ h_b Tryd.underlying23 rfl infoK ?_)
          | (refine wpList_load_row rfl 23 _ rfl (w.heap.size + 2) rfl _ _ _ _ h_c Tryd.underlying23 rfl infoK ?_)
          | (refine wpList_load_row rfl 23 _ rfl w7.heap.size rfl _ _ _ _ h_t Tryd.underlying23 rfl infoK ?_))
        go_at_call 11
        refine (d5 _).mono ?_
        rintro e w8 ⟨rfl, hb8⟩
        replace h_a := h_a.later hb8
        replace h_b := h_b.later hb8
        replace h_c := h_c.later hb8
        replace h_t := h_t.later hb8
        have hB8 : Hid (Below w.heap.size w w8) := bthen hA7.out hb8
        clear hb8 hA7
        obtain ⟨q_a0, q_a1, q_a2, q_a3, q_a4, q_a5⟩ := h_a.box
        obtain ⟨q_b0, q_b1, q_b2, q_b3, q_b4, q_b5⟩ := h_b.box
        go_wp2
        go_ret
        exact ⟨rfl, hB8.out⟩
      · go_wp2_with (first
          | (refine wpList_load_row rfl 23 _ rfl w.heap.size rfl _ _ _ _ h_a Tryd.underlying23 rfl infoK ?_)
          | (refine wpList_load_row rfl 23 _ rfl (w.heap.size + 1) rfl _ _ _ _ h_b Tryd.underlying23 rfl infoK ?_)
          | (refine wpList_load_row rfl 23 _ rfl (w.heap.size + 2) rfl _ _ _ _ h_c Tryd.underlying23 rfl infoK ?_))
        go_at_call 18
        refine (c1 _).mono ?_
        rintro e w7 ⟨rfl, hb7⟩
        replace h_a := h_a.later hb7
        replace h_b := h_b.later hb7
        replace h_c := h_c.later hb7
        have hB7 : Hid (Below w.heap.size w w7) := bthen hB6.out hb7
        clear hb7 hB6
        replace h_a := h_a.later (boxed w7 (objK T))
        replace h_b := h_b.later (boxed w7 (objK T))
        replace h_c := h_c.later (boxed w7 (objK T))
        have h_t := inB_new w7 T
        have hA7 : Hid (Below w.heap.size w (w7.alloc (objK T))) := bthen hB7.out (boxed _ _)
        clear hB7
        go_wp2_with (first
          | (refine wpList_load_row rfl 23 _ rfl w.heap.size rfl _ _ _ _ h_a Tryd.underlying23 rfl infoK ?_)
          | (refine wpList_load_row rfl 23 _ rfl (w.heap.size + 1) rfl _ _ _ _ h_b Tryd.underlying23 rfl infoK ?_)
          | (refine wpList_load_row rfl 23 _ rfl (w.heap.size + 2) rfl _ _ _ _ h_c Tryd.underlying23 rfl infoK ?_)
          | (refine wpList_load_row rfl 23 _ rfl w7.heap.size rfl _ _ _ _ h_t Tryd.underlying23 rfl infoK ?_))
        go_at_call 11
        refine (d5 _).mono ?_
        rintro e w8 ⟨rfl, hb8⟩
        replace h_a := h_a.later hb8
        replace h_b := h_b.later hb8
        replace h_c := h_c.later hb8
        replace h_t := h_t.later hb8
        have hB8 : Hid (Below w.heap.size w w8) := bthen hA7.out hb8
        clear hb8 hA7
        obtain ⟨q_a0, q_a1, q_a2, q_a3, q_a4, q_a5⟩ := h_a.box
        obtain ⟨q_b0, q_b1, q_b2, q_b3, q_b4, q_b5⟩ := h_b.box
        go_wp2
        go_ret
        exact ⟨rfl, hB8.out⟩
      · go_wp2_with (first
          | (refine wpList_load_row rfl 23 _ rfl w.heap.size rfl _ _ _ _ h_a Tryd.underlying23 rfl infoK ?_)
          | (refine wpList_load_row rfl 23 _ rfl (w.heap.size + 1) rfl _ _ _ _ h_b Tryd.underlying23 rfl infoK ?_)
          | (refine wpList_load_row rfl 23 _ rfl (w.heap.size + 2) rfl _ _ _ _ h_c Tryd.underlying23 rfl infoK ?_))
        go_at_call 18
        refine (c1 _).mono ?_
        rintro e w7 ⟨rfl, hb7⟩
        replace h_a := h_a.later hb7
        replace h_b := h_b.later hb7
        replace h_c := h_c.later hb7
        have hB7 : Hid (Below w.heap.size w w7) := bthen hB6.out hb7
        clear hb7 hB6
        replace h_a := h_a.later (boxed w7 (objK T))
        replace h_b := h_b.later (boxed w7 (objK T))
        replace h_c := h_c.later (boxed w7 (objK T))
        have h_t := inB_new w7 T
        have hA7 : Hid (Below w.heap.size w (w7.alloc (objK T))) := bthen hB7.out (boxed _ _)
        clear hB7
        go_wp2_with (first
          | (refine wpList_load_row rfl 23 _ rfl w.heap.size rfl _ _ _ _ h_a Tryd.underlying23 rfl infoK ?_)
          | (refine wpList_load_row rfl 23 _ rfl (w.heap.size + 1) rfl _ _ _ _ h_b Tryd.underlying23 rfl infoK ?_)
          | (refine wpList_load_row rfl 23 _ rfl (w.heap.size + 2) rfl _ _ _ _ h_c Tryd.underlying23 rfl infoK ?_)
          | (refine wpList_load_row rfl 23 _ rfl w7.heap.size rfl _ _ _ _ h_t Tryd.underlying23 rfl infoK ?_))
        go_at_call 11
        refine (d5 _).mono ?_
        rintro e w8 ⟨rfl, hb8⟩
        replace h_a := h_a.later hb8
        replace h_b := h_b.later hb8
        replace h_c := h_c.later hb8
        replace h_t := h_t.later hb8
        have hB8 : Hid (Below w.heap.size w w8) := bthen hA7.out hb8
        clear hb8 hA7
        obtain ⟨q_a0, q_a1, q_a2, q_a3, q_a4, q_a5⟩ := h_a.box
        obtain ⟨q_b0, q_b1, q_b2, q_b3, q_b4, q_b5⟩ := h_b.box
        go_wp2
        go_ret
        exact ⟨rfl, hB8.out⟩
  · rcases hv3 with ⟨rfl, rfl⟩ | rfl
    · go_wp2_with (first
        | (refine wpList_load_row rfl 23 _ rfl w.heap.size rfl _ _ _ _ h_a Tryd.underlying23 rfl infoK ?_)
        | (refine wpList_load_row rfl 23 _ rfl (w.heap.size + 1) rfl _ _ _ _ h_b Tryd.underlying23 rfl infoK ?_)
        | (refine wpList_load_row rfl 23 _ rfl (w.heap.size + 2) rfl _ _ _ _ h_c Tryd.underlying23 rfl infoK ?_))
      go_at_call 18
      refine (c1 _).mono ?_
      rintro e w7 ⟨rfl, hb7⟩
      replace h_a := h_a.later hb7
      replace h_b := h_b.later hb7
      replace h_c := h_c.later hb7
      have hB7 : Hid (Below w.heap.size w w7) := bthen hB6.out hb7
      clear hb7 hB6
      replace h_a := h_a.later (boxed w7 (objK T))
      replace h_b := h_b.later (boxed w7 (objK T))
      replace h_c := h_c.later (boxed w7 (objK T))
      have h_t := inB_new w7 T
      have hA7 : Hid (Below w.heap.size w (w7.alloc (objK T))) := bthen hB7.out (boxed _ _)
      clear hB7
      go_wp2_with (first
        | (refine wpList_load_row rfl 23 _ rfl w.heap.size rfl _ _ _ _ h_a Tryd.underlying23 rfl infoK ?_)
        | (refine wpList_load_row rfl 23 _ rfl (w.heap.size + 1) rfl _ _ _ _ h_b Tryd.underlying23 rfl infoK ?_)
        | (refine wpList_load_row rfl 23 _ rfl (w.heap.size + 2) rfl _ _ _ _ h_c Tryd.underlying23 rfl infoK ?_)
        | (refine wpList_load_row rfl 23 _ rfl w7.heap.size rfl _ _ _ _ h_t Tryd.underlying23 rfl infoK ?_))
      go_at_call 11
      refine (d5 _).mono ?_
      rintro e w8 ⟨rfl, hb8⟩
      replace h_a := h_a.later hb8
      replace h_b := h_b.later hb8
      replace h_c := h_c.later hb8
      replace h_t := h_t.later hb8
      have hB8 : Hid (Below w.heap.size w w8) := bthen hA7.out hb8
      clear hb8 hA7
      obtain ⟨q_a0, q_a1, q_a2, q_a3, q_a4, q_a5⟩ := h_a.box
      obtain ⟨q_b0, q_b1, q_b2, q_b3, q_b4, q_b5⟩ := h_b.box
      go_wp2
      go_ret
      exact ⟨rfl, hB8.out⟩
    · go_wp2_with (first
        | (refine wpList_load_row rfl 23 _ rfl w.heap.size rfl _ _ _ _ h_a Tryd.underlying23 rfl infoK ?_)
        | (refine wpList_load_row rfl 23 _ rfl (w.heap.size + 1) rfl _ _ _ _ h_b Tryd.underlying23 rfl infoK ?_)
        | (refine wpList_load_row rfl 23 _ rfl (w.heap.size + 2) rfl _ _ _ _ h_c Tryd.underlying23 rfl infoK ?_))
      go_at_call 18
      refine (c1 _).mono ?_
      rintro e w7 ⟨rfl, hb7⟩
      replace h_a := h_a.later hb7
      replace h_b := h_b.later hb7
      replace h_c := h_c.later hb7
      have hB7 : Hid (Below w.heap.size w w7) := bthen hB6.out hb7
      clear hb7 hB6
      replace h_a := h_a.later (boxed w7 (objK T))
      replace h_b := h_b.later (boxed w7 (objK T))
      replace h_c := h_c.later (boxed w7 (objK T))
      have h_t := inB_new w7 T
      have hA7 : Hid (Below w.heap.size w (w7.alloc (objK T))) := bthen hB7.out (boxed _ _)
      clear hB7
      go_wp2_with (first
        | (refine wpList_load_row rfl 23 _ rfl w.heap.size rfl _ _ _ _ h_a Tryd.underlying23 rfl infoK ?_)
        | (refine wpList_load_row rfl 23 _ rfl (w.heap.size + 1) rfl _ _ _ _ h_b Tryd.underlying23 rfl infoK ?_)
        | (refine wpList_load_row rfl 23 _ rfl (w.heap.size + 2) rfl _ _ _ _ h_c Tryd.underlying23 rfl infoK ?_)
        | (refine wpList_load_row rfl 23 _ rfl w7.heap.size rfl _ _ _ _ h_t Tryd.underlying23 rfl infoK ?_))
      go_at_call 11
      refine (d5 _).mono ?_
      rintro e w8 ⟨rfl, hb8⟩
      replace h_a := h_a.later hb8
      replace h_b := h_b.later hb8
      replace h_c := h_c.later hb8
      replace h_t := h_t.later hb8
      have hB8 : Hid (Below w.heap.size w w8) := bthen hA7.out hb8
      clear hb8 hA7
      obtain ⟨q_a0, q_a1, q_a2, q_a3, q_a4, q_a5⟩ := h_a.box
      obtain ⟨q_b0, q_b1, q_b2, q_b3, q_b4, q_b5⟩ := h_b.box
      go_wp2
      go_ret
      exact ⟨rfl, hB8.out⟩
  · rcases hv3 with ⟨rfl, rfl⟩ | rfl
    · go_wp2_with (first
        | (refine wpList_load_row rfl 23 _ rfl w.heap.size rfl _ _ _ _ h_a Tryd.underlying23 rfl infoK ?_)
        | (refine wpList_load_row rfl 23 _ rfl (w.heap.size + 1) rfl _ _ _ _ h_b Tryd.underlying23 rfl infoK ?_)
        | (refine wpList_load_row rfl 23 _ rfl (w.heap.size + 2) rfl _ _ _ _ h_c Tryd.underlying23 rfl infoK ?_))
      go_at_call 18
      refine (c1 _).mono ?_
      rintro e w7 ⟨rfl, hb7⟩
      replace h_a := h_a.later hb7
      replace h_b := h_b.later hb7
      replace h_c := h_c.later hb7
      have hB7 : Hid (Below w.heap.size w w7) := bthen hB6.out hb7
      clear hb7 hB6
      replace h_a := h_a.later (boxed w7 (objK T))
      replace h_b := h_b.later (boxed w7 (objK T))
      replace h_c := h_c.later (boxed w7 (objK T))
      have h_t := inB_new w7 T
      have hA7 : Hid (Below w.heap.size w (w7.alloc (objK T))) := bthen hB7.out (boxed _ _)
      clear hB7
      go_wp2_with (first
        | (refine wpList_load_row rfl 23 _ rfl w.heap.size rfl _ _ _ _ h_a Tryd.underlying23 rfl infoK ?_)
        | (refine wpList_load_row rfl 23 _ rfl (w.heap.size + 1) rfl _ _ _ _ h_b Tryd.underlying23 rfl infoK ?_)
        | (refine wpList_load_row rfl 23 _ rfl (w.heap.size + 2) rfl _ _ _ _ h_c Tryd.underlying23 rfl infoK ?_)
        | (refine wpList_load_row rfl 23 _ rfl w7.heap.size rfl _ _ _ _ h_t Tryd.underlying23 rfl infoK ?_))
      go_at_call 11
      refine (d5 _).mono ?_
      rintro e w8 ⟨rfl, hb8⟩
      replace h_a := h_a.later hb8
      replace h_b := h_b.later hb8
      replace h_c := h_c.later hb8
      replace h_t := h_t.later hb8
      have hB8 : Hid (Below w.heap.size w w8) := bthen hA7.out hb8
      clear hb8 hA7
      obtain ⟨q_a0, q_a1, q_a2, q_a3, q_a4, q_a5⟩ := h_a.box
      obtain ⟨q_b0, q_b1, q_b2, q_b3, q_b4, q_b5⟩ := h_b.box
      go_wp2
      go_ret
      exact ⟨rfl, hB8.out⟩
    · go_wp2_with (first
        | (refine wpList_load_row rfl 23 _ rfl w.heap.size rfl _ _ _ _ h_a Tryd.underlying23 rfl infoK ?_)
        | (refine wpList_load_row rfl 23 _ rfl (w.heap.size + 1) rfl _ _ _ _ h_b Tryd.underlying23 rfl infoK ?_)
        | (refine wpList_load_row rfl 23 _ rfl (w.heap.size + 2) rfl _ _ _ _ h_c Tryd.underlying23 rfl infoK ?_))
      go_at_call 18
      refine (c1 _).mono ?_
      rintro e w7 ⟨rfl, hb7⟩
      replace h_a := h_a.later hb7
      replace h_b := h_b.later hb7
      replace h_c := h_c.later hb7
      have hB7 : Hid (Below w.heap.size w w7) := bthen hB6.out hb7
      clear hb7 hB6
      replace h_a := h_a.later (boxed w7 (objK T))
      replace h_b := h_b.later (boxed w7 (objK T))
      replace h_c := h_c.later (boxed w7 (objK T))
      have h_t := inB_new w7 T
      have hA7 : Hid (Below w.heap.size w (w7.alloc (objK T))) := bthen hB7.out (boxed _ _)
      clear hB7
      go_wp2_with (first
        | (refine wpList_load_row rfl 23 _ rfl w.heap.size rfl _ _ _ _ h_a Tryd.underlying23 rfl infoK ?_)
        | (refine wpList_load_row rfl 23 _ rfl (w.heap.size + 1) rfl _ _ _ _ h_b Tryd.underlying23 rfl infoK ?_)
        | (refine wpList_load_row rfl 23 _ rfl (w.heap.size + 2) rfl _ _ _ _ h_c Tryd.underlying23 rfl infoK ?_)
        | (refine wpList_load_row rfl 23 _ rfl w7.heap.size rfl _ _ _ _ h_t Tryd.underlying23 rfl infoK ?_))
      go_at_call 11
      refine (d5 _).mono ?_
      rintro e w8 ⟨rfl, hb8⟩
      replace h_a := h_a.later hb8
      replace h_b := h_b.later hb8
      replace h_c := h_c.later hb8
      replace h_t := h_t.later hb8
      have hB8 : Hid (Below w.heap.size w w8) := bthen hA7.out hb8
      clear hb8 hA7
      obtain ⟨q_a0, q_a1, q_a2, q_a3, q_a4, q_a5⟩ := h_a.box
      obtain ⟨q_b0, q_b1, q_b2, q_b3, q_b4, q_b5⟩ := h_b.box
      go_wp2
      go_ret
      exact ⟨rfl, hB8.out⟩
theorem order_any (a b c : Ck) (w : World) (hT : Tab w) : Calls Tryd.prog 8 #[a.val, b.val, c.val] w fun e w' => e = .returned (.bool true) ∧ Below w.heap.size w w' := by
  by_cases h : a.ok ∧ b.ok ∧ c.ok
  · exact order_ok a b c h.1 h.2.1 h.2.2 w hT
  · exact order_bad a b c h w hT
end Go.Proofs.YtodkmmmbomoheaaDoor.pg
