/- The walks of the statements on clocks: the least, and the greatest. -/
import Derived.Test.YtodkmmmbomoheaaDoorCk10
namespace Go.Proofs.YtodkmmmbomoheaaDoor.pg
open Go.ChangeShapes Go.WideShapes Go.ChangeAt Go.RowKit
set_option linter.unusedVariables false
set_option linter.unusedSimpArgs false
set_option maxRecDepth 100000
attribute [local go_sem ↓] Go.wp_at_zero Go.wp_at_succ
theorem leK_refl (x : Ck) : leK x x = true := by rw [leK_iff]; omega
theorem leK_trans {x y z : Ck} (h1 : leK x y = true) (h2 : leK y z = true) : leK x z = true := by
  rw [leK_iff] at *; omega
theorem leK_anti {x y : Ck} (h1 : leK x y = true) (h2 : leK y x = true) : x = y := by
  rw [leK_iff] at *; exact ckext (by omega) (by omega) (by omega) (by omega) (by omega) (by omega)
theorem eq_le {x y : Ck} (h : eqK x y = true) : leK x y = true ∧ leK y x = true := by
  rw [eqK_iff] at h; subst h; exact ⟨leK_refl _, leK_refl _⟩
theorem cmp_low (x y : Ck) : cmpK x y ≤ 0 ↔ leK x y = true := by
  rcases cmpK_cases x y with ⟨h1, h2⟩ | ⟨h1, h2, h3⟩ | ⟨h1, h2, h3, h4⟩ | ⟨h1, h2, h3, h4⟩
  · rw [h2]; simp [(eq_le h1).1]
  · rw [h3]; simp [h2]
  · rw [h4]; simp [h2]
  · rw [h4]; simp [h2]
theorem cmp_up (x y : Ck) : (cmpK x y = 0 ∨ cmpK x y = 1) ↔ leK y x = true := by
  rcases cmpK_cases x y with ⟨h1, h2⟩ | ⟨h1, h2, h3⟩ | ⟨h1, h2, h3, h4⟩ | ⟨h1, h2, h3, h4⟩
  · rw [h2]; simp [(eq_le h1).2]
  · rw [h3]
    constructor
    · intro q; omega
    · intro q
      have := (eqK_iff x y).mpr (leK_anti h2 q)
      rw [h1] at this; cases this
  · rw [h4]; simp [h3]
  · rw [h4]; simp [h3]
theorem cmp_vals (x y : Ck) : cmpK x y = 0 ∨ cmpK x y = -1 ∨ cmpK x y = 1 ∨ cmpK x y = 2 := by
  rcases cmpK_cases x y with ⟨_, h⟩ | ⟨_, _, h⟩ | ⟨_, _, _, h⟩ | ⟨_, _, _, h⟩ <;> simp [h]
theorem le_join (x y : Ck) : leK x (x.join y) = true ∧ leK y (x.join y) = true := by
  rw [leK_iff, leK_iff]; simp only [Ck.join]; omega
theorem meet_le (x y : Ck) : leK (x.meet y) x = true ∧ leK (x.meet y) y = true := by
  rw [leK_iff, leK_iff]; simp only [Ck.meet]; omega
theorem join_least {x y z : Ck} (h1 : leK x z = true) (h2 : leK y z = true) : leK (x.join y) z = true := by
  rw [leK_iff] at *; simp only [Ck.join]; omega
theorem meet_most {x y z : Ck} (h1 : leK z x = true) (h2 : leK z y = true) : leK z (x.meet y) = true := by
  rw [leK_iff] at *; simp only [Ck.meet]; omega
set_option maxHeartbeats 4000000 in
theorem least_bad (a b c : Ck) (hno : ¬ (a.ok ∧ b.ok ∧ c.ok)) (w : World) (hT : Tab w) : Calls Tryd.prog 7 #[a.val, b.val, c.val] w fun e w' => e = .returned (.bool true) ∧ Below w.heap.size w w' := by
  obtain ⟨h_a, h_b, h_c⟩ := boxes3c w a b c
  have hB0 : Hid (Below w.heap.size w (((w.alloc (objK a)).alloc (objK b)).alloc (objK c))) := boxed3 _ _ _ _
  have hTH : Hid (Tab w) := hT
  by_cases hab : a.ok ∧ b.ok
  · have hcc : ¬ (c.ok ∧ c.ok) := fun q => hno ⟨hab.1, hab.2, q.1⟩
    have c1 := bad_ok a b hab.1 hab.2
    have c2 := bad_bad c c hcc
    have c3 := small_any
    clear hno hab hcc hT
    go_enter Tryd.func7, Tryd.ntmps7
    go_wp2_with (first
      | (refine wpList_load_row rfl 23 _ rfl w.heap.size rfl _ _ _ _ h_a Tryd.underlying23 rfl infoK ?_)
      | (refine wpList_load_row rfl 23 _ rfl (w.heap.size + 1) rfl _ _ _ _ h_b Tryd.underlying23 rfl infoK ?_)
      | (refine wpList_load_row rfl 23 _ rfl (w.heap.size + 2) rfl _ _ _ _ h_c Tryd.underlying23 rfl infoK ?_))
    go_at_call 12
    refine (c1 _).mono ?_
    rintro e w1 ⟨rfl, hb1⟩
    replace h_a := h_a.later hb1
    replace h_b := h_b.later hb1
    replace h_c := h_c.later hb1
    have hB1 : Hid (Below w.heap.size w w1) := bthen hB0.out hb1
    clear hb1 hB0
    obtain ⟨q_c0, q_c1, q_c2, q_c3, q_c4, q_c5⟩ := h_c.box
    go_wp2_with (first
      | (refine wpList_load_row rfl 23 _ rfl w.heap.size rfl _ _ _ _ h_a Tryd.underlying23 rfl infoK ?_)
      | (refine wpList_load_row rfl 23 _ rfl (w.heap.size + 1) rfl _ _ _ _ h_b Tryd.underlying23 rfl infoK ?_)
      | (refine wpList_load_row rfl 23 _ rfl (w.heap.size + 2) rfl _ _ _ _ h_c Tryd.underlying23 rfl infoK ?_))
    go_at_call 12
    refine (c2 _).mono ?_
    rintro e w2 ⟨rfl, hb2⟩
    replace h_a := h_a.later hb2
    replace h_b := h_b.later hb2
    replace h_c := h_c.later hb2
    have hB2 : Hid (Below w.heap.size w w2) := bthen hB1.out hb2
    clear hb2 hB1
    go_wp2_with (first
      | (refine wpList_load_row rfl 23 _ rfl w.heap.size rfl _ _ _ _ h_a Tryd.underlying23 rfl infoK ?_)
      | (refine wpList_load_row rfl 23 _ rfl (w.heap.size + 1) rfl _ _ _ _ h_b Tryd.underlying23 rfl infoK ?_)
      | (refine wpList_load_row rfl 23 _ rfl (w.heap.size + 2) rfl _ _ _ _ h_c Tryd.underlying23 rfl infoK ?_))
    go_at_call 14
    refine (c3 _ (hTH.out.later hB2.out)).mono ?_
    rintro e w3 ⟨rfl, hb3⟩
    replace h_a := h_a.later hb3
    replace h_b := h_b.later hb3
    replace h_c := h_c.later hb3
    have hB3 : Hid (Below w.heap.size w w3) := bthen hB2.out hb3
    clear hb3 hB2
    go_wp2
    go_ret
    exact ⟨rfl, hB3.out⟩
  · have c1 := bad_bad a b hab
    have c3 := small_any
    clear hno hab hT
    go_enter Tryd.func7, Tryd.ntmps7
    go_wp2_with (first
      | (refine wpList_load_row rfl 23 _ rfl w.heap.size rfl _ _ _ _ h_a Tryd.underlying23 rfl infoK ?_)
      | (refine wpList_load_row rfl 23 _ rfl (w.heap.size + 1) rfl _ _ _ _ h_b Tryd.underlying23 rfl infoK ?_)
      | (refine wpList_load_row rfl 23 _ rfl (w.heap.size + 2) rfl _ _ _ _ h_c Tryd.underlying23 rfl infoK ?_))
    go_at_call 12
    refine (c1 _).mono ?_
    rintro e w1 ⟨rfl, hb1⟩
    replace h_a := h_a.later hb1
    replace h_b := h_b.later hb1
    replace h_c := h_c.later hb1
    have hB1 : Hid (Below w.heap.size w w1) := bthen hB0.out hb1
    clear hb1 hB0
    go_wp2_with (first
      | (refine wpList_load_row rfl 23 _ rfl w.heap.size rfl _ _ _ _ h_a Tryd.underlying23 rfl infoK ?_)
      | (refine wpList_load_row rfl 23 _ rfl (w.heap.size + 1) rfl _ _ _ _ h_b Tryd.underlying23 rfl infoK ?_)
      | (refine wpList_load_row rfl 23 _ rfl (w.heap.size + 2) rfl _ _ _ _ h_c Tryd.underlying23 rfl infoK ?_))
    go_at_call 14
    refine (c3 _ (hTH.out.later hB1.out)).mono ?_
    rintro e w2 ⟨rfl, hb2⟩
    replace h_a := h_a.later hb2
    replace h_b := h_b.later hb2
    replace h_c := h_c.later hb2
    have hB2 : Hid (Below w.heap.size w w2) := bthen hB1.out hb2
    clear hb2 hB1
    go_wp2
    go_ret
    exact ⟨rfl, hB2.out⟩
set_option maxHeartbeats 4000000 in
theorem least_ok (a b c : Ck) (ha : a.ok) (hb : b.ok) (hc : c.ok) (w : World) (hT : Tab w) : Calls Tryd.prog 7 #[a.val, b.val, c.val] w fun e w' => e = .returned (.bool true) ∧ Below w.heap.size w w' := by
  obtain ⟨h_a, h_b, h_c⟩ := boxes3c w a b c
  have hB0 : Hid (Below w.heap.size w (((w.alloc (objK a)).alloc (objK b)).alloc (objK c))) := boxed3 _ _ _ _
  have hTH : Hid (Tab w) := hT
  have cb1 := bad_ok a b ha hb
  have cb2 := bad_ok c c hc hc
  obtain ⟨J, eJ⟩ : ∃ J, Hid (J = a.join b) := ⟨_, rfl⟩
  have kJ : J.ok := by rw [eJ.out]; exact join_okK ha hb
  have c1 : ∀ wx, Calls Tryd.prog 9 #[a.val, b.val] wx fun e w' => e = .returned (.tuple #[J.val, .int .i64 0]) ∧ Below wx.heap.size wx w' := fun wx => by rw [eJ.out]; exact join_any a b ha hb wx
  obtain ⟨M, eM⟩ : ∃ J, Hid (J = a.meet b) := ⟨_, rfl⟩
  have kM : M.ok := by rw [eM.out]; exact meet_okK ha hb
  have c2 : ∀ wx, Calls Tryd.prog 10 #[a.val, b.val] wx fun e w' => e = .returned (.tuple #[M.val, .int .i64 0]) ∧ Below wx.heap.size wx w' := fun wx => by rw [eM.out]; exact meet_any a b ha hb wx
  obtain ⟨aj, eaj⟩ : ∃ R, Hid (R = cmpK a J) := ⟨_, rfl⟩
  have d1 : ∀ wx, Calls Tryd.prog 11 #[a.val, J.val] wx fun e w' => e = .returned (.tuple #[.int .i64 aj, .int .i64 0]) ∧ Below wx.heap.size wx w' := fun wx => cmp_any' a J ha kJ wx aj eaj
  obtain ⟨bj, ebj⟩ : ∃ R, Hid (R = cmpK b J) := ⟨_, rfl⟩
  have d2 : ∀ wx, Calls Tryd.prog 11 #[b.val, J.val] wx fun e w' => e = .returned (.tuple #[.int .i64 bj, .int .i64 0]) ∧ Below wx.heap.size wx w' := fun wx => cmp_any' b J hb kJ wx bj ebj
  obtain ⟨am, eam⟩ : ∃ R, Hid (R = cmpK a M) := ⟨_, rfl⟩
  have d3 : ∀ wx, Calls Tryd.prog 11 #[a.val, M.val] wx fun e w' => e = .returned (.tuple #[.int .i64 am, .int .i64 0]) ∧ Below wx.heap.size wx w' := fun wx => cmp_any' a M ha kM wx am eam
  obtain ⟨bm, ebm⟩ : ∃ R, Hid (R = cmpK b M) := ⟨_, rfl⟩
  have d4 : ∀ wx, Calls Tryd.prog 11 #[b.val, M.val] wx fun e w' => e = .returned (.tuple #[.int .i64 bm, .int .i64 0]) ∧ Below wx.heap.size wx w' := fun wx => cmp_any' b M hb kM wx bm ebm
  obtain ⟨ac, eac⟩ : ∃ R, Hid (R = cmpK a c) := ⟨_, rfl⟩
  have d5 : ∀ wx, Calls Tryd.prog 11 #[a.val, c.val] wx fun e w' => e = .returned (.tuple #[.int .i64 ac, .int .i64 0]) ∧ Below wx.heap.size wx w' := fun wx => cmp_any' a c ha hc wx ac eac
  obtain ⟨bc, ebc⟩ : ∃ R, Hid (R = cmpK b c) := ⟨_, rfl⟩
  have d6 : ∀ wx, Calls Tryd.prog 11 #[b.val, c.val] wx fun e w' => e = .returned (.tuple #[.int .i64 bc, .int .i64 0]) ∧ Below wx.heap.size wx w' := fun wx => cmp_any' b c hb hc wx bc ebc
  obtain ⟨jc, ejc⟩ : ∃ R, Hid (R = cmpK J c) := ⟨_, rfl⟩
  have d7 : ∀ wx, Calls Tryd.prog 11 #[J.val, c.val] wx fun e w' => e = .returned (.tuple #[.int .i64 jc, .int .i64 0]) ∧ Below wx.heap.size wx w' := fun wx => cmp_any' J c kJ hc wx jc ejc
  obtain ⟨mc, emc⟩ : ∃ R, Hid (R = cmpK M c) := ⟨_, rfl⟩
  have d8 : ∀ wx, Calls Tryd.prog 11 #[M.val, c.val] wx fun e w' => e = .returned (.tuple #[.int .i64 mc, .int .i64 0]) ∧ Below wx.heap.size wx w' := fun wx => cmp_any' M c kM hc wx mc emc
  have c3 := small_any
  have t1 : ¬ 0 < aj := by have := (cmp_low a J).mpr (by rw [eJ.out]; exact (le_join a b).1); rw [eaj.out]; omega
  have t2 : ¬ 0 < bj := by have := (cmp_low b J).mpr (by rw [eJ.out]; exact (le_join a b).2); rw [ebj.out]; omega
  have u3 := (cmp_up a M).mpr (by rw [eM.out]; exact (meet_le a b).1)
  have u4 := (cmp_up b M).mpr (by rw [eM.out]; exact (meet_le a b).2)
  have t3 : ¬ am < 0 := by rw [eam.out]; omega
  have t4 : (am == 2) = false := by rw [eam.out]; simp; omega
  have t5 : ¬ bm < 0 := by rw [ebm.out]; omega
  have t6 : (bm == 2) = false := by rw [ebm.out]; simp; omega
  have v1 : Hid (ac = 0 ∨ ac = -1 ∨ ac = 1 ∨ ac = 2) := by rw [eac.out]; exact cmp_vals a c
  have v2 : Hid (bc = 0 ∨ bc = -1 ∨ bc = 1 ∨ bc = 2) := by rw [ebc.out]; exact cmp_vals b c
  have v3 : Hid (ac ≤ 0 → bc ≤ 0 → jc ≤ 0) := fun h1 h2 => by
    rw [eac.out] at h1; rw [ebc.out] at h2
    rw [ejc.out, cmp_low, eJ.out]
    exact join_least ((cmp_low a c).mp h1) ((cmp_low b c).mp h2)
  have v4 : Hid ((ac = 0 ∨ ac = 1) → (bc = 0 ∨ bc = 1) → (mc = 0 ∨ mc = 1)) := fun h1 h2 => by
    rw [eac.out] at h1; rw [ebc.out] at h2
    rw [emc.out, cmp_up, eM.out]
    exact meet_most ((cmp_up a c).mp h1) ((cmp_up b c).mp h2)
  clear ha hb hc hT kJ kM u3 u4
  clear eJ eM eaj ebj eam ebm eac ebc ejc emc
  go_enter Tryd.func7, Tryd.ntmps7
  go_wp2_with (first
    | (refine wpList_load_row rfl 23 _ rfl w.heap.size rfl _ _ _ _ h_a Tryd.underlying23 rfl infoK ?_)
    | (refine wpList_load_row rfl 23 _ rfl (w.heap.size + 1) rfl _ _ _ _ h_b Tryd.underlying23 rfl infoK ?_)
    | (refine wpList_load_row rfl 23 _ rfl (w.heap.size + 2) rfl _ _ _ _ h_c Tryd.underlying23 rfl infoK ?_))
  go_at_call 12
  refine (cb1 _).mono ?_
  rintro e w1 ⟨rfl, hb1⟩
  replace h_a := h_a.later hb1
  replace h_b := h_b.later hb1
  replace h_c := h_c.later hb1
  have hB1 : Hid (Below w.heap.size w w1) := bthen hB0.out hb1
  clear hb1 hB0
  obtain ⟨q_c0, q_c1, q_c2, q_c3, q_c4, q_c5⟩ := h_c.box
  go_wp2_with (first
    | (refine wpList_load_row rfl 23 _ rfl w.heap.size rfl _ _ _ _ h_a Tryd.underlying23 rfl infoK ?_)
    | (refine wpList_load_row rfl 23 _ rfl (w.heap.size + 1) rfl _ _ _ _ h_b Tryd.underlying23 rfl infoK ?_)
    | (refine wpList_load_row rfl 23 _ rfl (w.heap.size + 2) rfl _ _ _ _ h_c Tryd.underlying23 rfl infoK ?_))
  go_at_call 12
  refine (cb2 _).mono ?_
  rintro e w2 ⟨rfl, hb2⟩
  replace h_a := h_a.later hb2
  replace h_b := h_b.later hb2
  replace h_c := h_c.later hb2
  have hB2 : Hid (Below w.heap.size w w2) := bthen hB1.out hb2
  clear hb2 hB1
  clear q_c0 q_c1 q_c2 q_c3 q_c4 q_c5
  go_wp2_with (first
    | (refine wpList_load_row rfl 23 _ rfl w.heap.size rfl _ _ _ _ h_a Tryd.underlying23 rfl infoK ?_)
    | (refine wpList_load_row rfl 23 _ rfl (w.heap.size + 1) rfl _ _ _ _ h_b Tryd.underlying23 rfl infoK ?_)
    | (refine wpList_load_row rfl 23 _ rfl (w.heap.size + 2) rfl _ _ _ _ h_c Tryd.underlying23 rfl infoK ?_))
  go_at_call 9
  refine (c1 _).mono ?_
  rintro e w3 ⟨rfl, hb3⟩
  replace h_a := h_a.later hb3
  replace h_b := h_b.later hb3
  replace h_c := h_c.later hb3
  have hB3 : Hid (Below w.heap.size w w3) := bthen hB2.out hb3
  clear hb3 hB2
  replace h_a := h_a.later (boxed w3 (objK J))
  replace h_b := h_b.later (boxed w3 (objK J))
  replace h_c := h_c.later (boxed w3 (objK J))
  have h_j := inB_new w3 J
  have hA3 : Hid (Below w.heap.size w (w3.alloc (objK J))) := bthen hB3.out (boxed _ _)
  clear hB3
  go_wp2_with (first
    | (refine wpList_load_row rfl 23 _ rfl w.heap.size rfl _ _ _ _ h_a Tryd.underlying23 rfl infoK ?_)
    | (refine wpList_load_row rfl 23 _ rfl (w.heap.size + 1) rfl _ _ _ _ h_b Tryd.underlying23 rfl infoK ?_)
    | (refine wpList_load_row rfl 23 _ rfl (w.heap.size + 2) rfl _ _ _ _ h_c Tryd.underlying23 rfl infoK ?_)
    | (refine wpList_load_row rfl 23 _ rfl w3.heap.size rfl _ _ _ _ h_j Tryd.underlying23 rfl infoK ?_))
  go_at_call 10
  refine (c2 _).mono ?_
  rintro e w4 ⟨rfl, hb4⟩
  replace h_a := h_a.later hb4
  replace h_b := h_b.later hb4
  replace h_c := h_c.later hb4
  replace h_j := h_j.later hb4
  have hB4 : Hid (Below w.heap.size w w4) := bthen hA3.out hb4
  clear hb4 hA3
  replace h_a := h_a.later (boxed w4 (objK M))
  replace h_b := h_b.later (boxed w4 (objK M))
  replace h_c := h_c.later (boxed w4 (objK M))
  replace h_j := h_j.later (boxed w4 (objK M))
  have h_m := inB_new w4 M
  have hA4 : Hid (Below w.heap.size w (w4.alloc (objK M))) := bthen hB4.out (boxed _ _)
  clear hB4
  go_wp2_with (first
    | (refine wpList_load_row rfl 23 _ rfl w.heap.size rfl _ _ _ _ h_a Tryd.underlying23 rfl infoK ?_)
    | (refine wpList_load_row rfl 23 _ rfl (w.heap.size + 1) rfl _ _ _ _ h_b Tryd.underlying23 rfl infoK ?_)
    | (refine wpList_load_row rfl 23 _ rfl (w.heap.size + 2) rfl _ _ _ _ h_c Tryd.underlying23 rfl infoK ?_)
    | (refine wpList_load_row rfl 23 _ rfl w3.heap.size rfl _ _ _ _ h_j Tryd.underlying23 rfl infoK ?_)
    | (refine wpList_load_row rfl 23 _ rfl w4.heap.size rfl _ _ _ _ h_m Tryd.underlying23 rfl infoK ?_))
  go_at_call 11
  refine (d1 _).mono ?_
  rintro e w5 ⟨rfl, hb5⟩
  replace h_a := h_a.later hb5
  replace h_b := h_b.later hb5
  replace h_c := h_c.later hb5
  replace h_j := h_j.later hb5
  replace h_m := h_m.later hb5
  have hB5 : Hid (Below w.heap.size w w5) := bthen hA4.out hb5
  clear hb5 hA4
  go_wp2_with (first
    | (refine wpList_load_row rfl 23 _ rfl w.heap.size rfl _ _ _ _ h_a Tryd.underlying23 rfl infoK ?_)
    | (refine wpList_load_row rfl 23 _ rfl (w.heap.size + 1) rfl _ _ _ _ h_b Tryd.underlying23 rfl infoK ?_)
    | (refine wpList_load_row rfl 23 _ rfl (w.heap.size + 2) rfl _ _ _ _ h_c Tryd.underlying23 rfl infoK ?_)
    | (refine wpList_load_row rfl 23 _ rfl w3.heap.size rfl _ _ _ _ h_j Tryd.underlying23 rfl infoK ?_)
    | (refine wpList_load_row rfl 23 _ rfl w4.heap.size rfl _ _ _ _ h_m Tryd.underlying23 rfl infoK ?_))
  go_at_call 11
  refine (d2 _).mono ?_
  rintro e w6 ⟨rfl, hb6⟩
  replace h_a := h_a.later hb6
  replace h_b := h_b.later hb6
  replace h_c := h_c.later hb6
  replace h_j := h_j.later hb6
  replace h_m := h_m.later hb6
  have hB6 : Hid (Below w.heap.size w w6) := bthen hB5.out hb6
  clear hb6 hB5
  go_wp2_with (first
    | (refine wpList_load_row rfl 23 _ rfl w.heap.size rfl _ _ _ _ h_a Tryd.underlying23 rfl infoK ?_)
    | (refine wpList_load_row rfl 23 _ rfl (w.heap.size + 1) rfl _ _ _ _ h_b Tryd.underlying23 rfl infoK ?_)
    | (refine wpList_load_row rfl 23 _ rfl (w.heap.size + 2) rfl _ _ _ _ h_c Tryd.underlying23 rfl infoK ?_)
    | (refine wpList_load_row rfl 23 _ rfl w3.heap.size rfl _ _ _ _ h_j Tryd.underlying23 rfl infoK ?_)
    | (refine wpList_load_row rfl 23 _ rfl w4.heap.size rfl _ _ _ _ h_m Tryd.underlying23 rfl infoK ?_))
  go_at_call 11
  refine (d3 _).mono ?_
  rintro e w7 ⟨rfl, hb7⟩
  replace h_a := h_a.later hb7
  replace h_b := h_b.later hb7
  replace h_c := h_c.later hb7
  replace h_j := h_j.later hb7
  replace h_m := h_m.later hb7
  have hB7 : Hid (Below w.heap.size w w7) := bthen hB6.out hb7
  clear hb7 hB6
  go_wp2_with (first
    | (refine wpList_load_row rfl 23 _ rfl w.heap.size rfl _ _ _ _ h_a Tryd.underlying23 rfl infoK ?_)
    | (refine wpList_load_row rfl 23 _ rfl (w.heap.size + 1) rfl _ _ _ _ h_b Tryd.underlying23 rfl infoK ?_)
    | (refine wpList_load_row rfl 23 _ rfl (w.heap.size + 2) rfl _ _ _ _ h_c Tryd.underlying23 rfl infoK ?_)
    | (refine wpList_load_row rfl 23 _ rfl w3.heap.size rfl _ _ _ _ h_j Tryd.underlying23 rfl infoK ?_)
    | (refine wpList_load_row rfl 23 _ rfl w4.heap.size rfl _ _ _ _ h_m Tryd.underlying23 rfl infoK ?_))
  go_at_call 11
  refine (d4 _).mono ?_
  rintro e w8 ⟨rfl, hb8⟩
  replace h_a := h_a.later hb8
  replace h_b := h_b.later hb8
  replace h_c := h_c.later hb8
  replace h_j := h_j.later hb8
  replace h_m := h_m.later hb8
  have hB8 : Hid (Below w.heap.size w w8) := bthen hB7.out hb8
  clear hb8 hB7
  go_wp2_with (first
    | (refine wpList_load_row rfl 23 _ rfl w.heap.size rfl _ _ _ _ h_a Tryd.underlying23 rfl infoK ?_)
    | (refine wpList_load_row rfl 23 _ rfl (w.heap.size + 1) rfl _ _ _ _ h_b Tryd.underlying23 rfl infoK ?_)
    | (refine wpList_load_row rfl 23 _ rfl (w.heap.size + 2) rfl _ _ _ _ h_c Tryd.underlying23 rfl infoK ?_)
    | (refine wpList_load_row rfl 23 _ rfl w3.heap.size rfl _ _ _ _ h_j Tryd.underlying23 rfl infoK ?_)
    | (refine wpList_load_row rfl 23 _ rfl w4.heap.size rfl _ _ _ _ h_m Tryd.underlying23 rfl infoK ?_))
  go_at_call 11
  refine (d5 _).mono ?_
  rintro e w9 ⟨rfl, hb9⟩
  replace h_a := h_a.later hb9
  replace h_b := h_b.later hb9
  replace h_c := h_c.later hb9
  replace h_j := h_j.later hb9
  replace h_m := h_m.later hb9
  have hB9 : Hid (Below w.heap.size w w9) := bthen hB8.out hb9
  clear hb9 hB8
  go_wp2_with (first
    | (refine wpList_load_row rfl 23 _ rfl w.heap.size rfl _ _ _ _ h_a Tryd.underlying23 rfl infoK ?_)
    | (refine wpList_load_row rfl 23 _ rfl (w.heap.size + 1) rfl _ _ _ _ h_b Tryd.underlying23 rfl infoK ?_)
    | (refine wpList_load_row rfl 23 _ rfl (w.heap.size + 2) rfl _ _ _ _ h_c Tryd.underlying23 rfl infoK ?_)
    | (refine wpList_load_row rfl 23 _ rfl w3.heap.size rfl _ _ _ _ h_j Tryd.underlying23 rfl infoK ?_)
    | (refine wpList_load_row rfl 23 _ rfl w4.heap.size rfl _ _ _ _ h_m Tryd.underlying23 rfl infoK ?_))
  go_at_call 11
  refine (d6 _).mono ?_
  rintro e w10 ⟨rfl, hb10⟩
  replace h_a := h_a.later hb10
  replace h_b := h_b.later hb10
  replace h_c := h_c.later hb10
  replace h_j := h_j.later hb10
  replace h_m := h_m.later hb10
  have hB10 : Hid (Below w.heap.size w w10) := bthen hB9.out hb10
  clear hb10 hB9
  go_wp2_with (first
    | (refine wpList_load_row rfl 23 _ rfl w.heap.size rfl _ _ _ _ h_a Tryd.underlying23 rfl infoK ?_)
    | (refine wpList_load_row rfl 23 _ rfl (w.heap.size + 1) rfl _ _ _ _ h_b Tryd.underlying23 rfl infoK ?_)
    | (refine wpList_load_row rfl 23 _ rfl (w.heap.size + 2) rfl _ _ _ _ h_c Tryd.underlying23 rfl infoK ?_)
    | (refine wpList_load_row rfl 23 _ rfl w3.heap.size rfl _ _ _ _ h_j Tryd.underlying23 rfl infoK ?_)
    | (refine wpList_load_row rfl 23 _ rfl w4.heap.size rfl _ _ _ _ h_m Tryd.underlying23 rfl infoK ?_))
  go_at_call 11
  refine (d7 _).mono ?_
  rintro e w11 ⟨rfl, hb11⟩
  replace h_a := h_a.later hb11
  replace h_b := h_b.later hb11
  replace h_c := h_c.later hb11
  replace h_j := h_j.later hb11
  replace h_m := h_m.later hb11
  have hB11 : Hid (Below w.heap.size w w11) := bthen hB10.out hb11
  clear hb11 hB10
  go_wp2_with (first
    | (refine wpList_load_row rfl 23 _ rfl w.heap.size rfl _ _ _ _ h_a Tryd.underlying23 rfl infoK ?_)
    | (refine wpList_load_row rfl 23 _ rfl (w.heap.size + 1) rfl _ _ _ _ h_b Tryd.underlying23 rfl infoK ?_)
    | (refine wpList_load_row rfl 23 _ rfl (w.heap.size + 2) rfl _ _ _ _ h_c Tryd.underlying23 rfl infoK ?_)
    | (refine wpList_load_row rfl 23 _ rfl w3.heap.size rfl _ _ _ _ h_j Tryd.underlying23 rfl infoK ?_)
    | (refine wpList_load_row rfl 23 _ rfl w4.heap.size rfl _ _ _ _ h_m Tryd.underlying23 rfl infoK ?_))
  go_at_call 11
  refine (d8 _).mono ?_
  rintro e w12 ⟨rfl, hb12⟩
  replace h_a := h_a.later hb12
  replace h_b := h_b.later hb12
  replace h_c := h_c.later hb12
  replace h_j := h_j.later hb12
  replace h_m := h_m.later hb12
  have hB12 : Hid (Below w.heap.size w w12) := bthen hB11.out hb12
  clear hb12 hB11
  have hTW := hTH.out.later hB12.out
  clear h_a h_b h_c h_j h_m
  obtain hac := v1.out
  obtain hbc := v2.out
  rcases hac with rfl | rfl | rfl | rfl <;> rcases hbc with rfl | rfl | rfl | rfl
  · have hj : ¬ 0 < jc := by have := v3.out (by omega) (by omega); omega
    have hj2 : jc ≤ 0 := by omega
    rcases v4.out (by omega) (by omega) with rfl | rfl
    · go_wp2_with (go_at_call 14; (with_reducible refine (c3 _ hTW).mono ?_); rintro e w30 ⟨rfl, hb30⟩)
      go_ret
      exact ⟨rfl, bthen hB12.out hb30⟩
    · go_wp2_with (go_at_call 14; (with_reducible refine (c3 _ hTW).mono ?_); rintro e w30 ⟨rfl, hb30⟩)
      go_ret
      exact ⟨rfl, bthen hB12.out hb30⟩
  · have hj : ¬ 0 < jc := by have := v3.out (by omega) (by omega); omega
    have hj2 : jc ≤ 0 := by omega
    go_wp2_with (go_at_call 14; (with_reducible refine (c3 _ hTW).mono ?_); rintro e w30 ⟨rfl, hb30⟩)
    go_ret
    exact ⟨rfl, bthen hB12.out hb30⟩
  · rcases v4.out (by omega) (by omega) with rfl | rfl
    · go_wp2_with (go_at_call 14; (with_reducible refine (c3 _ hTW).mono ?_); rintro e w30 ⟨rfl, hb30⟩)
      go_ret
      exact ⟨rfl, bthen hB12.out hb30⟩
    · go_wp2_with (go_at_call 14; (with_reducible refine (c3 _ hTW).mono ?_); rintro e w30 ⟨rfl, hb30⟩)
      go_ret
      exact ⟨rfl, bthen hB12.out hb30⟩
  · go_wp2_with (go_at_call 14; (with_reducible refine (c3 _ hTW).mono ?_); rintro e w30 ⟨rfl, hb30⟩)
    go_ret
    exact ⟨rfl, bthen hB12.out hb30⟩
  · have hj : ¬ 0 < jc := by have := v3.out (by omega) (by omega); omega
    have hj2 : jc ≤ 0 := by omega
    go_wp2_with (go_at_call 14; (with_reducible refine (c3 _ hTW).mono ?_); rintro e w30 ⟨rfl, hb30⟩)
    go_ret
    exact ⟨rfl, bthen hB12.out hb30⟩
  · have hj : ¬ 0 < jc := by have := v3.out (by omega) (by omega); omega
    have hj2 : jc ≤ 0 := by omega
    go_wp2_with (go_at_call 14; (with_reducible refine (c3 _ hTW).mono ?_); rintro e w30 ⟨rfl, hb30⟩)
    go_ret
    exact ⟨rfl, bthen hB12.out hb30⟩
  · go_wp2_with (go_at_call 14; (with_reducible refine (c3 _ hTW).mono ?_); rintro e w30 ⟨rfl, hb30⟩)
    go_ret
    exact ⟨rfl, bthen hB12.out hb30⟩
  · go_wp2_with (go_at_call 14; (with_reducible refine (c3 _ hTW).mono ?_); rintro e w30 ⟨rfl, hb30⟩)
    go_ret
    exact ⟨rfl, bthen hB12.out hb30⟩
  · rcases v4.out (by omega) (by omega) with rfl | rfl
    · go_wp2_with (go_at_call 14; (with_reducible refine (c3 _ hTW).mono ?_); rintro e w30 ⟨rfl, hb30⟩)
      go_ret
      exact ⟨rfl, bthen hB12.out hb30⟩
    · go_wp2_with (go_at_call 14; (with_reducible refine (c3 _ hTW).mono ?_); rintro e w30 ⟨rfl, hb30⟩)
      go_ret
      exact ⟨rfl, bthen hB12.out hb30⟩
  · go_wp2_with (go_at_call 14; (with_reducible refine (c3 _ hTW).mono ?_); rintro e w30 ⟨rfl, hb30⟩)
    go_ret
    exact ⟨rfl, bthen hB12.out hb30⟩
  · rcases v4.out (by omega) (by omega) with rfl | rfl
    · go_wp2_with (go_at_call 14; (with_reducible refine (c3 _ hTW).mono ?_); rintro e w30 ⟨rfl, hb30⟩)
      go_ret
      exact ⟨rfl, bthen hB12.out hb30⟩
    · go_wp2_with (go_at_call 14; (with_reducible refine (c3 _ hTW).mono ?_); rintro e w30 ⟨rfl, hb30⟩)
      go_ret
      exact ⟨rfl, bthen hB12.out hb30⟩
  · go_wp2_with (go_at_call 14; (with_reducible refine (c3 _ hTW).mono ?_); rintro e w30 ⟨rfl, hb30⟩)
    go_ret
    exact ⟨rfl, bthen hB12.out hb30⟩
  · go_wp2_with (go_at_call 14; (with_reducible refine (c3 _ hTW).mono ?_); rintro e w30 ⟨rfl, hb30⟩)
    go_ret
    exact ⟨rfl, bthen hB12.out hb30⟩
  · go_wp2_with (go_at_call 14; (with_reducible refine (c3 _ hTW).mono ?_); rintro e w30 ⟨rfl, hb30⟩)
    go_ret
    exact ⟨rfl, bthen hB12.out hb30⟩
  · go_wp2_with (go_at_call 14; (with_reducible refine (c3 _ hTW).mono ?_); rintro e w30 ⟨rfl, hb30⟩)
    go_ret
    exact ⟨rfl, bthen hB12.out hb30⟩
  · go_wp2_with (go_at_call 14; (with_reducible refine (c3 _ hTW).mono ?_); rintro e w30 ⟨rfl, hb30⟩)
    go_ret
    exact ⟨rfl, bthen hB12.out hb30⟩
theorem least_any (a b c : Ck) (w : World) (hT : Tab w) : Calls Tryd.prog 7 #[a.val, b.val, c.val] w fun e w' => e = .returned (.bool true) ∧ Below w.heap.size w w' := by
  by_cases h : a.ok ∧ b.ok ∧ c.ok
  · exact least_ok a b c h.1 h.2.1 h.2.2 w hT
  · exact least_bad a b c h w hT
end Go.Proofs.YtodkmmmbomoheaaDoor.pg
