/- The walks of the statements on clocks: Join, Meet, Cmp, Tick. -/
import Derived.Test.YtodkmmmbomoheaaDoorCk9
namespace Go.Proofs.YtodkmmmbomoheaaDoor.pg
open Go.ChangeShapes Go.WideShapes Go.ChangeAt Go.RowKit
set_option linter.unusedVariables false
set_option linter.unusedSimpArgs false
set_option maxRecDepth 100000
attribute [local go_sem ↓] Go.wp_at_zero Go.wp_at_succ
abbrev tick2 : Ck := ⟨0, 0, 1, 0, 0, 0⟩
theorem tick2_is : tickP zeroK 2 tick2 0 := .inr ⟨by rw [Ck.ok_iff]; simp [okC], 2, by omega, rfl, 0, rfl, .inr ⟨by omega, rfl, rfl⟩⟩
theorem tick2_text : textK tick2 = ⟨#[60, 48, 44, 48, 44, 49, 44, 48, 44, 48, 44, 48, 62]⟩ := by
  have h0 : (numT 0).data.toList = [48] := by unfold numT Lib.itoa; rw [if_neg (by omega), Lib.decDigits]; rfl
  have h1 : (numT 1).data.toList = [49] := by unfold numT Lib.itoa; rw [if_neg (by omega), Lib.decDigits]; rfl
  unfold textK midT Ck.list
  simp only [List.map_cons, List.map_nil, h0, h1]
  rfl
theorem tick2_ok : tick2.ok := by rw [Ck.ok_iff]; simp [okC]
set_option maxHeartbeats 1000000 in
theorem small_any (w : World) (hT : Tab w) : Calls Tryd.prog 14 #[] w fun e w' => e = .returned (.bool true) ∧ Below w.heap.size w w' := by
  have c1 : ∀ wx, Calls Tryd.prog 18 #[zeroK.val, .int .i64 2] wx fun e w' => e = .returned (.tuple #[tick2.val, .int .i64 0]) ∧ Below wx.heap.size wx w' := fun wx => tick_any zeroK 2 tick2 0 tick2_is wx
  have c2 : ∀ wx, Tab wx → Calls Tryd.prog 20 #[tick2.val] wx fun e w' => e = .returned (.tuple #[.string ⟨#[60, 48, 44, 48, 44, 49, 44, 48, 44, 48, 44, 48, 62]⟩, .int .i64 0]) ∧ Below wx.heap.size wx w' := fun wx h => by have := text_any tick2 tick2_ok wx h; rwa [tick2_text] at this
  have c3 : ∀ wx, Calls Tryd.prog 13 #[tick2.val] wx fun e w' => e = .returned (.int .i64 0) ∧ Below wx.heap.size wx w' := fun wx => check_ok tick2 tick2_ok wx
  have hTH : Hid (Tab w) := hT
  clear hT
  go_enter Tryd.func14, Tryd.ntmps14
  go_wp2_with (first
    | (go_at_call 18; (with_reducible refine (c1 _).mono ?_); rintro e w1 ⟨rfl, hb1⟩; (have hB1 : Hid (Below w.heap.size w (w1.alloc (objK tick2))) := bthen hb1 (boxed _ _)); (have hx1 := inB_new w1 tick2); clear hb1)
    | (go_at_call 20; (with_reducible refine (c2 _ (hTH.out.later hB1.out)).mono ?_); rintro e w2 ⟨rfl, hb2⟩; (have hB2 : Hid (Below w.heap.size w w2) := bthen hB1.out hb2); (obtain ⟨q0, q1, q2, q3, q4, q5⟩ := (hx1.later hb2).box); clear hb2)
    | (go_at_call 13; (with_reducible refine (c3 _).mono ?_); rintro e w3 ⟨rfl, hb3⟩; (have hB3 : Hid (Below w.heap.size w w3) := bthen hB2.out hb3); clear hb3))
  go_ret
  exact ⟨rfl, hB3.out⟩
/-- Boxes of three clocks. -/
theorem boxes3c (w : World) (x y z : Ck) : InB (((w.alloc (objK x)).alloc (objK y)).alloc (objK z)) w.heap.size x ∧ InB (((w.alloc (objK x)).alloc (objK y)).alloc (objK z)) (w.heap.size + 1) y ∧ InB (((w.alloc (objK x)).alloc (objK y)).alloc (objK z)) (w.heap.size + 2) z := by
  refine ⟨(inB_new w x).later (boxed2 _ _ _), ?_, ?_⟩
  · have := (inB_new (w.alloc (objK x)) y).later (boxed _ (objK z))
    rwa [World.size_alloc] at this
  · have := inB_new ((w.alloc (objK x)).alloc (objK y)) z
    rwa [World.size_alloc, World.size_alloc] at this
theorem join_okK {x y : Ck} (hx : x.ok) (hy : y.ok) : (x.join y).ok := by
  rw [Ck.ok_iff] at *
  simp only [okC, Ck.join] at *
  omega
theorem meet_okK {x y : Ck} (hx : x.ok) (hy : y.ok) : (x.meet y).ok := by
  rw [Ck.ok_iff] at *
  simp only [okC, Ck.meet] at *
  omega
theorem ckext {x y : Ck} (h0 : x.c0 = y.c0) (h1 : x.c1 = y.c1) (h2 : x.c2 = y.c2) (h3 : x.c3 = y.c3) (h4 : x.c4 = y.c4) (h5 : x.c5 = y.c5) : x = y := by
  cases x; cases y; simp_all
theorem jcomm (x y : Ck) : x.join y = y.join x := ckext (Int.max_comm _ _) (Int.max_comm _ _) (Int.max_comm _ _) (Int.max_comm _ _) (Int.max_comm _ _) (Int.max_comm _ _)
theorem mcomm (x y : Ck) : x.meet y = y.meet x := ckext (Int.min_comm _ _) (Int.min_comm _ _) (Int.min_comm _ _) (Int.min_comm _ _) (Int.min_comm _ _) (Int.min_comm _ _)
theorem jassoc (x y z : Ck) : (x.join y).join z = x.join (y.join z) := by
  apply ckext <;> simp only [Ck.join] <;> omega
theorem jup (x y : Ck) : x.join (x.meet y) = x := by
  apply ckext <;> simp only [Ck.join, Ck.meet] <;> omega
theorem mdown (x y : Ck) : x.meet (x.join y) = x := by
  apply ckext <;> simp only [Ck.join, Ck.meet] <;> omega
theorem run_eqT {x y : Ck} (h : x = y) (wx : World) : (binOp .eql 23 x.val y.val).run Tryd.prog wx = .ok (.bool true) wx := by rw [run_eqK, (eqK_iff x y).mpr h]
set_option maxHeartbeats 4000000 in
theorem lattice_bad (a b c : Ck) (hno : ¬ (a.ok ∧ b.ok ∧ c.ok)) (w : World) (hT : Tab w) : Calls Tryd.prog 6 #[a.val, b.val, c.val] w fun e w' => e = .returned (.bool true) ∧ Below w.heap.size w w' := by
  obtain ⟨h_a, h_b, h_c⟩ := boxes3c w a b c
  have hB0 : Hid (Below w.heap.size w (((w.alloc (objK a)).alloc (objK b)).alloc (objK c))) := boxed3 _ _ _ _
  have hTH : Hid (Tab w) := hT
  by_cases hab : a.ok ∧ b.ok
  · have hcc : ¬ (c.ok ∧ c.ok) := fun q => hno ⟨hab.1, hab.2, q.1⟩
    have c1 := bad_ok a b hab.1 hab.2
    have c2 := bad_bad c c hcc
    have c3 := small_any
    clear hno hab hcc hT
    go_enter Tryd.func6, Tryd.ntmps6
    go_wp2_with (first
      | (refine wpList_load_row rfl 23 _ rfl w.heap.size rfl _ _ _ _ h_a Tryd.underlying23 rfl infoK ?_)
      | (refine wpList_load_row rfl 23 _ rfl (w.heap.size + 1) rfl _ _ _ _ h_b Tryd.underlying23 rfl infoK ?_)
      | (refine wpList_load_row rfl 23 _ rfl (w.heap.size + 2) rfl _ _ _ _ h_c Tryd.underlying23 rfl infoK ?_))
    go_at_call 12
    refine (c1 _).mono ?_
    rintro e w1 ⟨rfl, hb1⟩
    replace h_a := h_a.later hb1
    replace h_b := h_b.later hb1
    replace h_c := h_c.later hb1
    have hB1 : Hid (Below w.heap.size w w1) := bthen hB0.out hb1
    clear hb1 hB0
    obtain ⟨q_c0, q_c1, q_c2, q_c3, q_c4, q_c5⟩ := h_c.box
    go_wp2_with (first
      | (refine wpList_load_row rfl 23 _ rfl w.heap.size rfl _ _ _ _ h_a Tryd.underlying23 rfl infoK ?_)
      | (refine wpList_load_row rfl 23 _ rfl (w.heap.size + 1) rfl _ _ _ _ h_b Tryd.underlying23 rfl infoK ?_)
      | (refine wpList_load_row rfl 23 _ rfl (w.heap.size + 2) rfl _ _ _ _ h_c Tryd.underlying23 rfl infoK ?_))
    go_at_call 12
    refine (c2 _).mono ?_
    rintro e w2 ⟨rfl, hb2⟩
    replace h_a := h_a.later hb2
    replace h_b := h_b.later hb2
    replace h_c := h_c.later hb2
    have hB2 : Hid (Below w.heap.size w w2) := bthen hB1.out hb2
    clear hb2 hB1
    go_wp2_with (first
      | (refine wpList_load_row rfl 23 _ rfl w.heap.size rfl _ _ _ _ h_a Tryd.underlying23 rfl infoK ?_)
      | (refine wpList_load_row rfl 23 _ rfl (w.heap.size + 1) rfl _ _ _ _ h_b Tryd.underlying23 rfl infoK ?_)
      | (refine wpList_load_row rfl 23 _ rfl (w.heap.size + 2) rfl _ _ _ _ h_c Tryd.underlying23 rfl infoK ?_))
    go_at_call 14
    refine (c3 _ (hTH.out.later hB2.out)).mono ?_
    rintro e w3 ⟨rfl, hb3⟩
    replace h_a := h_a.later hb3
    replace h_b := h_b.later hb3
    replace h_c := h_c.later hb3
    have hB3 : Hid (Below w.heap.size w w3) := bthen hB2.out hb3
    clear hb3 hB2
    go_wp2
    go_ret
    exact ⟨rfl, hB3.out⟩
  · have c1 := bad_bad a b hab
    have c3 := small_any
    clear hno hab hT
    go_enter Tryd.func6, Tryd.ntmps6
    go_wp2_with (first
      | (refine wpList_load_row rfl 23 _ rfl w.heap.size rfl _ _ _ _ h_a Tryd.underlying23 rfl infoK ?_)
      | (refine wpList_load_row rfl 23 _ rfl (w.heap.size + 1) rfl _ _ _ _ h_b Tryd.underlying23 rfl infoK ?_)
      | (refine wpList_load_row rfl 23 _ rfl (w.heap.size + 2) rfl _ _ _ _ h_c Tryd.underlying23 rfl infoK ?_))
    go_at_call 12
    refine (c1 _).mono ?_
    rintro e w1 ⟨rfl, hb1⟩
    replace h_a := h_a.later hb1
    replace h_b := h_b.later hb1
    replace h_c := h_c.later hb1
    have hB1 : Hid (Below w.heap.size w w1) := bthen hB0.out hb1
    clear hb1 hB0
    go_wp2_with (first
      | (refine wpList_load_row rfl 23 _ rfl w.heap.size rfl _ _ _ _ h_a Tryd.underlying23 rfl infoK ?_)
      | (refine wpList_load_row rfl 23 _ rfl (w.heap.size + 1) rfl _ _ _ _ h_b Tryd.underlying23 rfl infoK ?_)
      | (refine wpList_load_row rfl 23 _ rfl (w.heap.size + 2) rfl _ _ _ _ h_c Tryd.underlying23 rfl infoK ?_))
    go_at_call 14
    refine (c3 _ (hTH.out.later hB1.out)).mono ?_
    rintro e w2 ⟨rfl, hb2⟩
    replace h_a := h_a.later hb2
    replace h_b := h_b.later hb2
    replace h_c := h_c.later hb2
    have hB2 : Hid (Below w.heap.size w w2) := bthen hB1.out hb2
    clear hb2 hB1
    go_wp2
    go_ret
    exact ⟨rfl, hB2.out⟩
set_option maxHeartbeats 4000000 in
theorem lattice_ok (a b c : Ck) (ha : a.ok) (hb : b.ok) (hc : c.ok) (w : World) (hT : Tab w) : Calls Tryd.prog 6 #[a.val, b.val, c.val] w fun e w' => e = .returned (.bool true) ∧ Below w.heap.size w w' := by
  obtain ⟨h_a, h_b, h_c⟩ := boxes3c w a b c
  have hB0 : Hid (Below w.heap.size w (((w.alloc (objK a)).alloc (objK b)).alloc (objK c))) := boxed3 _ _ _ _
  have hTH : Hid (Tab w) := hT
  have cb1 := bad_ok a b ha hb
  have cb2 := bad_ok c c hc hc
  obtain ⟨AB, eAB⟩ : ∃ J, Hid (J = a.join b) := ⟨_, rfl⟩
  have kAB : AB.ok := by rw [eAB.out]; exact join_okK ha hb
  have c1 : ∀ wx, Calls Tryd.prog 9 #[a.val, b.val] wx fun e w' => e = .returned (.tuple #[AB.val, .int .i64 0]) ∧ Below wx.heap.size wx w' := fun wx => by rw [eAB.out]; exact join_any a b ha hb wx
  obtain ⟨BA, eBA⟩ : ∃ J, Hid (J = b.join a) := ⟨_, rfl⟩
  have kBA : BA.ok := by rw [eBA.out]; exact join_okK hb ha
  have c2 : ∀ wx, Calls Tryd.prog 9 #[b.val, a.val] wx fun e w' => e = .returned (.tuple #[BA.val, .int .i64 0]) ∧ Below wx.heap.size wx w' := fun wx => by rw [eBA.out]; exact join_any b a hb ha wx
  obtain ⟨BC, eBC⟩ : ∃ J, Hid (J = b.join c) := ⟨_, rfl⟩
  have kBC : BC.ok := by rw [eBC.out]; exact join_okK hb hc
  have c3 : ∀ wx, Calls Tryd.prog 9 #[b.val, c.val] wx fun e w' => e = .returned (.tuple #[BC.val, .int .i64 0]) ∧ Below wx.heap.size wx w' := fun wx => by rw [eBC.out]; exact join_any b c hb hc wx
  obtain ⟨X, eX⟩ : ∃ J, Hid (J = AB.join c) := ⟨_, rfl⟩
  have kX : X.ok := by rw [eX.out]; exact join_okK kAB hc
  have c4 : ∀ wx, Calls Tryd.prog 9 #[AB.val, c.val] wx fun e w' => e = .returned (.tuple #[X.val, .int .i64 0]) ∧ Below wx.heap.size wx w' := fun wx => by rw [eX.out]; exact join_any AB c kAB hc wx
  obtain ⟨Y, eY⟩ : ∃ J, Hid (J = a.join BC) := ⟨_, rfl⟩
  have kY : Y.ok := by rw [eY.out]; exact join_okK ha kBC
  have c5 : ∀ wx, Calls Tryd.prog 9 #[a.val, BC.val] wx fun e w' => e = .returned (.tuple #[Y.val, .int .i64 0]) ∧ Below wx.heap.size wx w' := fun wx => by rw [eY.out]; exact join_any a BC ha kBC wx
  obtain ⟨M, eM⟩ : ∃ J, Hid (J = a.meet b) := ⟨_, rfl⟩
  have kM : M.ok := by rw [eM.out]; exact meet_okK ha hb
  have c6 : ∀ wx, Calls Tryd.prog 10 #[a.val, b.val] wx fun e w' => e = .returned (.tuple #[M.val, .int .i64 0]) ∧ Below wx.heap.size wx w' := fun wx => by rw [eM.out]; exact meet_any a b ha hb wx
  obtain ⟨N, eN⟩ : ∃ J, Hid (J = b.meet a) := ⟨_, rfl⟩
  have kN : N.ok := by rw [eN.out]; exact meet_okK hb ha
  have c7 : ∀ wx, Calls Tryd.prog 10 #[b.val, a.val] wx fun e w' => e = .returned (.tuple #[N.val, .int .i64 0]) ∧ Below wx.heap.size wx w' := fun wx => by rw [eN.out]; exact meet_any b a hb ha wx
  obtain ⟨UP, eUP⟩ : ∃ J, Hid (J = a.join M) := ⟨_, rfl⟩
  have kUP : UP.ok := by rw [eUP.out]; exact join_okK ha kM
  have c8 : ∀ wx, Calls Tryd.prog 9 #[a.val, M.val] wx fun e w' => e = .returned (.tuple #[UP.val, .int .i64 0]) ∧ Below wx.heap.size wx w' := fun wx => by rw [eUP.out]; exact join_any a M ha kM wx
  obtain ⟨DN, eDN⟩ : ∃ J, Hid (J = a.meet AB) := ⟨_, rfl⟩
  have kDN : DN.ok := by rw [eDN.out]; exact meet_okK ha kAB
  have c9 : ∀ wx, Calls Tryd.prog 10 #[a.val, AB.val] wx fun e w' => e = .returned (.tuple #[DN.val, .int .i64 0]) ∧ Below wx.heap.size wx w' := fun wx => by rw [eDN.out]; exact meet_any a AB ha kAB wx
  have e1 := run_eqT (show AB = BA by rw [eAB.out, eBA.out, jcomm])
  have e2 := run_eqT (show X = Y by rw [eX.out, eY.out, eAB.out, eBC.out, jassoc])
  have e3 := run_eqT (show M = N by rw [eM.out, eN.out, mcomm])
  have e4 := run_eqT (show UP = a by rw [eUP.out, eM.out, jup])
  have e5 := run_eqT (show DN = a by rw [eDN.out, eAB.out, mdown])
  clear ha hb hc hT kAB kBA kBC kX kY kM kN kUP kDN
  go_enter Tryd.func6, Tryd.ntmps6
  go_wp2_with (first
    | (refine wpList_load_row rfl 23 _ rfl w.heap.size rfl _ _ _ _ h_a Tryd.underlying23 rfl infoK ?_)
    | (refine wpList_load_row rfl 23 _ rfl (w.heap.size + 1) rfl _ _ _ _ h_b Tryd.underlying23 rfl infoK ?_)
    | (refine wpList_load_row rfl 23 _ rfl (w.heap.size + 2) rfl _ _ _ _ h_c Tryd.underlying23 rfl infoK ?_))
  go_at_call 12
  refine (cb1 _).mono ?_
  rintro e w1 ⟨rfl, hb1⟩
  replace h_a := h_a.later hb1
  replace h_b := h_b.later hb1
  replace h_c := h_c.later hb1
  have hB1 : Hid (Below w.heap.size w w1) := bthen hB0.out hb1
  clear hb1 hB0
  obtain ⟨q_c0, q_c1, q_c2, q_c3, q_c4, q_c5⟩ := h_c.box
  go_wp2_with (first
    | (refine wpList_load_row rfl 23 _ rfl w.heap.size rfl _ _ _ _ h_a Tryd.underlying23 rfl infoK ?_)
    | (refine wpList_load_row rfl 23 _ rfl (w.heap.size + 1) rfl _ _ _ _ h_b Tryd.underlying23 rfl infoK ?_)
    | (refine wpList_load_row rfl 23 _ rfl (w.heap.size + 2) rfl _ _ _ _ h_c Tryd.underlying23 rfl infoK ?_))
  go_at_call 12
  refine (cb2 _).mono ?_
  rintro e w2 ⟨rfl, hb2⟩
  replace h_a := h_a.later hb2
  replace h_b := h_b.later hb2
  replace h_c := h_c.later hb2
  have hB2 : Hid (Below w.heap.size w w2) := bthen hB1.out hb2
  clear hb2 hB1
  clear q_c0 q_c1 q_c2 q_c3 q_c4 q_c5
  go_wp2_with (first
    | (refine wpList_load_row rfl 23 _ rfl w.heap.size rfl _ _ _ _ h_a Tryd.underlying23 rfl infoK ?_)
    | (refine wpList_load_row rfl 23 _ rfl (w.heap.size + 1) rfl _ _ _ _ h_b Tryd.underlying23 rfl infoK ?_)
    | (refine wpList_load_row rfl 23 _ rfl (w.heap.size + 2) rfl _ _ _ _ h_c Tryd.underlying23 rfl infoK ?_))
  go_at_call 9
  refine (c1 _).mono ?_
  rintro e w3 ⟨rfl, hb3⟩
  replace h_a := h_a.later hb3
  replace h_b := h_b.later hb3
  replace h_c := h_c.later hb3
  have hB3 : Hid (Below w.heap.size w w3) := bthen hB2.out hb3
  clear hb3 hB2
  replace h_a := h_a.later (boxed w3 (objK AB))
  replace h_b := h_b.later (boxed w3 (objK AB))
  replace h_c := h_c.later (boxed w3 (objK AB))
  have h_ab := inB_new w3 AB
  have hA3 : Hid (Below w.heap.size w (w3.alloc (objK AB))) := bthen hB3.out (boxed _ _)
  clear hB3
  go_wp2_with (first
    | (refine wpList_load_row rfl 23 _ rfl w.heap.size rfl _ _ _ _ h_a Tryd.underlying23 rfl infoK ?_)
    | (refine wpList_load_row rfl 23 _ rfl (w.heap.size + 1) rfl _ _ _ _ h_b Tryd.underlying23 rfl infoK ?_)
    | (refine wpList_load_row rfl 23 _ rfl (w.heap.size + 2) rfl _ _ _ _ h_c Tryd.underlying23 rfl infoK ?_)
    | (refine wpList_load_row rfl 23 _ rfl w3.heap.size rfl _ _ _ _ h_ab Tryd.underlying23 rfl infoK ?_))
  go_at_call 9
  refine (c2 _).mono ?_
  rintro e w4 ⟨rfl, hb4⟩
  replace h_a := h_a.later hb4
  replace h_b := h_b.later hb4
  replace h_c := h_c.later hb4
  replace h_ab := h_ab.later hb4
  have hB4 : Hid (Below w.heap.size w w4) := bthen hA3.out hb4
  clear hb4 hA3
  replace h_a := h_a.later (boxed w4 (objK BA))
  replace h_b := h_b.later (boxed w4 (objK BA))
  replace h_c := h_c.later (boxed w4 (objK BA))
  replace h_ab := h_ab.later (boxed w4 (objK BA))
  have h_ba := inB_new w4 BA
  have hA4 : Hid (Below w.heap.size w (w4.alloc (objK BA))) := bthen hB4.out (boxed _ _)
  clear hB4
  go_wp2_with (first
    | (refine wpList_load_row rfl 23 _ rfl w.heap.size rfl _ _ _ _ h_a Tryd.underlying23 rfl infoK ?_)
    | (refine wpList_load_row rfl 23 _ rfl (w.heap.size + 1) rfl _ _ _ _ h_b Tryd.underlying23 rfl infoK ?_)
    | (refine wpList_load_row rfl 23 _ rfl (w.heap.size + 2) rfl _ _ _ _ h_c Tryd.underlying23 rfl infoK ?_)
    | (refine wpList_load_row rfl 23 _ rfl w3.heap.size rfl _ _ _ _ h_ab Tryd.underlying23 rfl infoK ?_)
    | (refine wpList_load_row rfl 23 _ rfl w4.heap.size rfl _ _ _ _ h_ba Tryd.underlying23 rfl infoK ?_))
  go_at_call 9
  refine (c3 _).mono ?_
  rintro e w5 ⟨rfl, hb5⟩
  replace h_a := h_a.later hb5
  replace h_b := h_b.later hb5
  replace h_c := h_c.later hb5
  replace h_ab := h_ab.later hb5
  replace h_ba := h_ba.later hb5
  have hB5 : Hid (Below w.heap.size w w5) := bthen hA4.out hb5
  clear hb5 hA4
  replace h_a := h_a.later (boxed w5 (objK BC))
  replace h_b := h_b.later (boxed w5 (objK BC))
  replace h_c := h_c.later (boxed w5 (objK BC))
  replace h_ab := h_ab.later (boxed w5 (objK BC))
  replace h_ba := h_ba.later (boxed w5 (objK BC))
  have h_bc := inB_new w5 BC
  have hA5 : Hid (Below w.heap.size w (w5.alloc (objK BC))) := bthen hB5.out (boxed _ _)
  clear hB5
  go_wp2_with (first
    | (refine wpList_load_row rfl 23 _ rfl w.heap.size rfl _ _ _ _ h_a Tryd.underlying23 rfl infoK ?_)
    | (refine wpList_load_row rfl 23 _ rfl (w.heap.size + 1) rfl _ _ _ _ h_b Tryd.underlying23 rfl infoK ?_)
    | (refine wpList_load_row rfl 23 _ rfl (w.heap.size + 2) rfl _ _ _ _ h_c Tryd.underlying23 rfl infoK ?_)
    | (refine wpList_load_row rfl 23 _ rfl w3.heap.size rfl _ _ _ _ h_ab Tryd.underlying23 rfl infoK ?_)
    | (refine wpList_load_row rfl 23 _ rfl w4.heap.size rfl _ _ _ _ h_ba Tryd.underlying23 rfl infoK ?_)
    | (refine wpList_load_row rfl 23 _ rfl w5.heap.size rfl _ _ _ _ h_bc Tryd.underlying23 rfl infoK ?_))
  go_at_call 9
  refine (c4 _).mono ?_
  rintro e w6 ⟨rfl, hb6⟩
  replace h_a := h_a.later hb6
  replace h_b := h_b.later hb6
  replace h_c := h_c.later hb6
  replace h_ab := h_ab.later hb6
  replace h_ba := h_ba.later hb6
  replace h_bc := h_bc.later hb6
  have hB6 : Hid (Below w.heap.size w w6) := bthen hA5.out hb6
  clear hb6 hA5
  replace h_a := h_a.later (boxed w6 (objK X))
  replace h_b := h_b.later (boxed w6 (objK X))
  replace h_c := h_c.later (boxed w6 (objK X))
  replace h_ab := h_ab.later (boxed w6 (objK X))
  replace h_ba := h_ba.later (boxed w6 (objK X))
  replace h_bc := h_bc.later (boxed w6 (objK X))
  have h_x := inB_new w6 X
  have hA6 : Hid (Below w.heap.size w (w6.alloc (objK X))) := bthen hB6.out (boxed _ _)
  clear hB6
  go_wp2_with (first
    | (refine wpList_load_row rfl 23 _ rfl w.heap.size rfl _ _ _ _ h_a Tryd.underlying23 rfl infoK ?_)
    | (refine wpList_load_row rfl 23 _ rfl (w.heap.size + 1) rfl _ _ _ _ h_b Tryd.underlying23 rfl infoK ?_)
    | (refine wpList_load_row rfl 23 _ rfl (w.heap.size + 2) rfl _ _ _ _ h_c Tryd.underlying23 rfl infoK ?_)
    | (refine wpList_load_row rfl 23 _ rfl w3.heap.size rfl _ _ _ _ h_ab Tryd.underlying23 rfl infoK ?_)
    | (refine wpList_load_row rfl 23 _ rfl w4.heap.size rfl _ _ _ _ h_ba Tryd.underlying23 rfl infoK ?_)
    | (refine wpList_load_row rfl 23 _ rfl w5.heap.size rfl _ _ _ _ h_bc Tryd.underlying23 rfl infoK ?_)
    | (refine wpList_load_row rfl 23 _ rfl w6.heap.size rfl _ _ _ _ h_x Tryd.underlying23 rfl infoK ?_))
  go_at_call 9
  refine (c5 _).mono ?_
  rintro e w7 ⟨rfl, hb7⟩
  replace h_a := h_a.later hb7
  replace h_b := h_b.later hb7
  replace h_c := h_c.later hb7
  replace h_ab := h_ab.later hb7
  replace h_ba := h_ba.later hb7
  replace h_bc := h_bc.later hb7
  replace h_x := h_x.later hb7
  have hB7 : Hid (Below w.heap.size w w7) := bthen hA6.out hb7
  clear hb7 hA6
  replace h_a := h_a.later (boxed w7 (objK Y))
  replace h_b := h_b.later (boxed w7 (objK Y))
  replace h_c := h_c.later (boxed w7 (objK Y))
  replace h_ab := h_ab.later (boxed w7 (objK Y))
  replace h_ba := h_ba.later (boxed w7 (objK Y))
  replace h_bc := h_bc.later (boxed w7 (objK Y))
  replace h_x := h_x.later (boxed w7 (objK Y))
  have h_y := inB_new w7 Y
  have hA7 : Hid (Below w.heap.size w (w7.alloc (objK Y))) := bthen hB7.out (boxed _ _)
  clear hB7
  go_wp2_with (first
    | (refine wpList_load_row rfl 23 _ rfl w.heap.size rfl _ _ _ _ h_a Tryd.underlying23 rfl infoK ?_)
    | (refine wpList_load_row rfl 23 _ rfl (w.heap.size + 1) rfl _ _ _ _ h_b Tryd.underlying23 rfl infoK ?_)
    | (refine wpList_load_row rfl 23 _ rfl (w.heap.size + 2) rfl _ _ _ _ h_c Tryd.underlying23 rfl infoK ?_)
    | (refine wpList_load_row rfl 23 _ rfl w3.heap.size rfl _ _ _ _ h_ab Tryd.underlying23 rfl infoK ?_)
    | (refine wpList_load_row rfl 23 _ rfl w4.heap.size rfl _ _ _ _ h_ba Tryd.underlying23 rfl infoK ?_)
    | (refine wpList_load_row rfl 23 _ rfl w5.heap.size rfl _ _ _ _ h_bc Tryd.underlying23 rfl infoK ?_)
    | (refine wpList_load_row rfl 23 _ rfl w6.heap.size rfl _ _ _ _ h_x Tryd.underlying23 rfl infoK ?_)
    | (refine wpList_load_row rfl 23 _ rfl w7.heap.size rfl _ _ _ _ h_y Tryd.underlying23 rfl infoK ?_))
  go_at_call 10
  refine (c6 _).mono ?_
  rintro e w8 ⟨rfl, hb8⟩
  replace h_a := h_a.later hb8
  replace h_b := h_b.later hb8
  replace h_c := h_c.later hb8
  replace h_ab := h_ab.later hb8
  replace h_ba := h_ba.later hb8
  replace h_bc := h_bc.later hb8
  replace h_x := h_x.later hb8
  replace h_y := h_y.later hb8
  have hB8 : Hid (Below w.heap.size w w8) := bthen hA7.out hb8
  clear hb8 hA7
  replace h_a := h_a.later (boxed w8 (objK M))
  replace h_b := h_b.later (boxed w8 (objK M))
  replace h_c := h_c.later (boxed w8 (objK M))
  replace h_ab := h_ab.later (boxed w8 (objK M))
  replace h_ba := h_ba.later (boxed w8 (objK M))
  replace h_bc := h_bc.later (boxed w8 (objK M))
  replace h_x := h_x.later (boxed w8 (objK M))
  replace h_y := h_y.later (boxed w8 (objK M))
  have h_m := inB_new w8 M
  have hA8 : Hid (Below w.heap.size w (w8.alloc (objK M))) := bthen hB8.out (boxed _ _)
  clear hB8
  go_wp2_with (first
    | (refine wpList_load_row rfl 23 _ rfl w.heap.size rfl _ _ _ _ h_a Tryd.underlying23 rfl infoK ?_)
    | (refine wpList_load_row rfl 23 _ rfl (w.heap.size + 1) rfl _ _ _ _ h_b Tryd.underlying23 rfl infoK ?_)
    | (refine wpList_load_row rfl 23 _ rfl (w.heap.size + 2) rfl _ _ _ _ h_c Tryd.underlying23 rfl infoK ?_)
    | (refine wpList_load_row rfl 23 _ rfl w3.heap.size rfl _ _ _ _ h_ab Tryd.underlying23 rfl infoK ?_)
    | (refine wpList_load_row rfl 23 _ rfl w4.heap.size rfl _ _ _ _ h_ba Tryd.underlying23 rfl infoK ?_)
    | (refine wpList_load_row rfl 23 _ rfl w5.heap.size rfl _ _ _ _ h_bc Tryd.underlying23 rfl infoK ?_)
    | (refine wpList_load_row rfl 23 _ rfl w6.heap.size rfl _ _ _ _ h_x Tryd.underlying23 rfl infoK ?_)
    | (refine wpList_load_row rfl 23 _ rfl w7.heap.size rfl _ _ _ _ h_y Tryd.underlying23 rfl infoK ?_)
    | (refine wpList_load_row rfl 23 _ rfl w8.heap.size rfl _ _ _ _ h_m Tryd.underlying23 rfl infoK ?_))
  go_at_call 10
  refine (c7 _).mono ?_
  rintro e w9 ⟨rfl, hb9⟩
  replace h_a := h_a.later hb9
  replace h_b := h_b.later hb9
  replace h_c := h_c.later hb9
  replace h_ab := h_ab.later hb9
  replace h_ba := h_ba.later hb9
  replace h_bc := h_bc.later hb9
  replace h_x := h_x.later hb9
  replace h_y := h_y.later hb9
  replace h_m := h_m.later hb9
  have hB9 : Hid (Below w.heap.size w w9) := bthen hA8.out hb9
  clear hb9 hA8
  replace h_a := h_a.later (boxed w9 (objK N))
  replace h_b := h_b.later (boxed w9 (objK N))
  replace h_c := h_c.later (boxed w9 (objK N))
  replace h_ab := h_ab.later (boxed w9 (objK N))
  replace h_ba := h_ba.later (boxed w9 (objK N))
  replace h_bc := h_bc.later (boxed w9 (objK N))
  replace h_x := h_x.later (boxed w9 (objK N))
  replace h_y := h_y.later (boxed w9 (objK N))
  replace h_m := h_m.later (boxed w9 (objK N))
  have h_n := inB_new w9 N
  have hA9 : Hid (Below w.heap.size w (w9.alloc (objK N))) := bthen hB9.out (boxed _ _)
  clear hB9
  go_wp2_with (first
    | (refine wpList_load_row rfl 23 _ rfl w.heap.size rfl _ _ _ _ h_a Tryd.underlying23 rfl infoK ?_)
    | (refine wpList_load_row rfl 23 _ rfl (w.heap.size + 1) rfl _ _ _ _ h_b Tryd.underlying23 rfl infoK ?_)
    | (refine wpList_load_row rfl 23 _ rfl (w.heap.size + 2) rfl _ _ _ _ h_c Tryd.underlying23 rfl infoK ?_)
    | (refine wpList_load_row rfl 23 _ rfl w3.heap.size rfl _ _ _ _ h_ab Tryd.underlying23 rfl infoK ?_)
    | (refine wpList_load_row rfl 23 _ rfl w4.heap.size rfl _ _ _ _ h_ba Tryd.underlying23 rfl infoK ?_)
    | (refine wpList_load_row rfl 23 _ rfl w5.heap.size rfl _ _ _ _ h_bc Tryd.underlying23 rfl infoK ?_)
    | (refine wpList_load_row rfl 23 _ rfl w6.heap.size rfl _ _ _ _ h_x Tryd.underlying23 rfl infoK ?_)
    | (refine wpList_load_row rfl 23 _ rfl w7.heap.size rfl _ _ _ _ h_y Tryd.underlying23 rfl infoK ?_)
    | (refine wpList_load_row rfl 23 _ rfl w8.heap.size rfl _ _ _ _ h_m Tryd.underlying23 rfl infoK ?_)
    | (refine wpList_load_row rfl 23 _ rfl w9.heap.size rfl _ _ _ _ h_n Tryd.underlying23 rfl infoK ?_))
  go_at_call 9
  refine (c8 _).mono ?_
  rintro e w10 ⟨rfl, hb10⟩
  replace h_a := h_a.later hb10
  replace h_b := h_b.later hb10
  replace h_c := h_c.later hb10
  replace h_ab := h_ab.later hb10
  replace h_ba := h_ba.later hb10
  replace h_bc := h_bc.later hb10
  replace h_x := h_x.later hb10
  replace h_y := h_y.later hb10
  replace h_m := h_m.later hb10
  replace h_n := h_n.later hb10
  have hB10 : Hid (Below w.heap.size w w10) := bthen hA9.out hb10
  clear hb10 hA9
  replace h_a := h_a.later (boxed w10 (objK UP))
  replace h_b := h_b.later (boxed w10 (objK UP))
  replace h_c := h_c.later (boxed w10 (objK UP))
  replace h_ab := h_ab.later (boxed w10 (objK UP))
  replace h_ba := h_ba.later (boxed w10 (objK UP))
  replace h_bc := h_bc.later (boxed w10 (objK UP))
  replace h_x := h_x.later (boxed w10 (objK UP))
  replace h_y := h_y.later (boxed w10 (objK UP))
  replace h_m := h_m.later (boxed w10 (objK UP))
  replace h_n := h_n.later (boxed w10 (objK UP))
  have h_up := inB_new w10 UP
  have hA10 : Hid (Below w.heap.size w (w10.alloc (objK UP))) := bthen hB10.out (boxed _ _)
  clear hB10
  go_wp2_with (first
    | (refine wpList_load_row rfl 23 _ rfl w.heap.size rfl _ _ _ _ h_a Tryd.underlying23 rfl infoK ?_)
    | (refine wpList_load_row rfl 23 _ rfl (w.heap.size + 1) rfl _ _ _ _ h_b Tryd.underlying23 rfl infoK ?_)
    | (refine wpList_load_row rfl 23 _ rfl (w.heap.size + 2) rfl _ _ _ _ h_c Tryd.underlying23 rfl infoK ?_)
    | (refine wpList_load_row rfl 23 _ rfl w3.heap.size rfl _ _ _ _ h_ab Tryd.underlying23 rfl infoK ?_)
    | (refine wpList_load_row rfl 23 _ rfl w4.heap.size rfl _ _ _ _ h_ba Tryd.underlying23 rfl infoK ?_)
    | (refine wpList_load_row rfl 23 _ rfl w5.heap.size rfl _ _ _ _ h_bc Tryd.underlying23 rfl infoK ?_)
    | (refine wpList_load_row rfl 23 _ rfl w6.heap.size rfl _ _ _ _ h_x Tryd.underlying23 rfl infoK ?_)
    | (refine wpList_load_row rfl 23 _ rfl w7.heap.size rfl _ _ _ _ h_y Tryd.underlying23 rfl infoK ?_)
    | (refine wpList_load_row rfl 23 _ rfl w8.heap.size rfl _ _ _ _ h_m Tryd.underlying23 rfl infoK ?_)
    | (refine wpList_load_row rfl 23 _ rfl w9.heap.size rfl _ _ _ _ h_n Tryd.underlying23 rfl infoK ?_)
    | (refine wpList_load_row rfl 23 _ rfl w10.heap.size rfl _ _ _ _ h_up Tryd.underlying23 rfl infoK ?_))
  go_at_call 10
  refine (c9 _).mono ?_
  rintro e w11 ⟨rfl, hb11⟩
  replace h_a := h_a.later hb11
  replace h_b := h_b.later hb11
  replace h_c := h_c.later hb11
  replace h_ab := h_ab.later hb11
  replace h_ba := h_ba.later hb11
  replace h_bc := h_bc.later hb11
  replace h_x := h_x.later hb11
  replace h_y := h_y.later hb11
  replace h_m := h_m.later hb11
  replace h_n := h_n.later hb11
  replace h_up := h_up.later hb11
  have hB11 : Hid (Below w.heap.size w w11) := bthen hA10.out hb11
  clear hb11 hA10
  replace h_a := h_a.later (boxed w11 (objK DN))
  replace h_b := h_b.later (boxed w11 (objK DN))
  replace h_c := h_c.later (boxed w11 (objK DN))
  replace h_ab := h_ab.later (boxed w11 (objK DN))
  replace h_ba := h_ba.later (boxed w11 (objK DN))
  replace h_bc := h_bc.later (boxed w11 (objK DN))
  replace h_x := h_x.later (boxed w11 (objK DN))
  replace h_y := h_y.later (boxed w11 (objK DN))
  replace h_m := h_m.later (boxed w11 (objK DN))
  replace h_n := h_n.later (boxed w11 (objK DN))
  replace h_up := h_up.later (boxed w11 (objK DN))
  have h_down := inB_new w11 DN
  have hA11 : Hid (Below w.heap.size w (w11.alloc (objK DN))) := bthen hB11.out (boxed _ _)
  clear hB11
  obtain ⟨q_ab0, q_ab1, q_ab2, q_ab3, q_ab4, q_ab5⟩ := h_ab.box
  obtain ⟨q_ba0, q_ba1, q_ba2, q_ba3, q_ba4, q_ba5⟩ := h_ba.box
  obtain ⟨q_x0, q_x1, q_x2, q_x3, q_x4, q_x5⟩ := h_x.box
  obtain ⟨q_y0, q_y1, q_y2, q_y3, q_y4, q_y5⟩ := h_y.box
  obtain ⟨q_m0, q_m1, q_m2, q_m3, q_m4, q_m5⟩ := h_m.box
  obtain ⟨q_n0, q_n1, q_n2, q_n3, q_n4, q_n5⟩ := h_n.box
  obtain ⟨q_up0, q_up1, q_up2, q_up3, q_up4, q_up5⟩ := h_up.box
  obtain ⟨q_down0, q_down1, q_down2, q_down3, q_down4, q_down5⟩ := h_down.box
  obtain ⟨q_a0, q_a1, q_a2, q_a3, q_a4, q_a5⟩ := h_a.box
  go_wp2
  go_ret
  exact ⟨rfl, hA11.out⟩
theorem lattice_any (a b c : Ck) (w : World) (hT : Tab w) : Calls Tryd.prog 6 #[a.val, b.val, c.val] w fun e w' => e = .returned (.bool true) ∧ Below w.heap.size w w' := by
  by_cases h : a.ok ∧ b.ok ∧ c.ok
  · exact lattice_ok a b c h.1 h.2.1 h.2.2 w hT
  · exact lattice_bad a b c h w hT
end Go.Proofs.YtodkmmmbomoheaaDoor.pg
