/- The document's own Past. -/
import Derived.Test.YtkhhkgfaakgdfaaM31
import Derived.Test.YtkhhkgfaakgdfaaM33
import Derived.Test.YtkhhkgfaakgdfaaM38
namespace Go.Proofs.Ytkhhkgfaakgdfaa.pg
open Go.ChangeShapes Go.WideShapes Go.ChangeAt Go.RowKit Go.Shelf
set_option linter.unusedVariables false
set_option linter.unusedSimpArgs false
set_option maxRecDepth 100000
attribute [local go_sem ↓] Go.wp_at_zero Go.wp_at_succ
set_option maxHeartbeats 1000000 in
theorem rpast_any (lo A n : Nat) (rb : Nat → Nat) (B : Nat → Nat → Bool) (j : Nat) (w : World) (hm : Mat w lo A n n rb B) (hn : n ≤ 256) (hj : j < n) :
    Calls Try.prog 27 #[.slice (some ⟨A, 0, none⟩) n n, .int .i64 (j : Int)] w fun e w' => ∃ va vc, e = .returned (.slice va (lst (fun k => B k j) n).length vc) ∧ LsS w (lst (fun k => B k j) n) va vc w' := by
  obtain ⟨iN, hiN, hzN, hsN, hbN⟩ := info_q infoN_u
  have hmH : Hid (Mat w lo A n n rb B) := hm
  have hnI : (n : Int) ≤ 256 := by omega
  have s0 : Hid (LsS w (lst (fun k => B k j) 0) none 0 w) := ⟨Below.refl _ _, own_nil_q _ _ _ _⟩
  obtain ⟨f, hf⟩ : ∃ f : Nat → Bool, f = fun k => B k j := ⟨_, rfl⟩
  have hfH : Hid (∀ k, f k = B k j) := fun k => by rw [hf]
  rw [← hf] at s0 ⊢
  clear hm hf
  go_enter Try.func27, Try.ntmps27
  go_wp2_with fail
  go_loopw [5, 6] (fun o u wr => ∃ (k : Nat) (va : Option Addr) (vc : Nat), k ≤ n ∧ u = .int .i64 k ∧ o = .slice va (lst f k).length vc ∧ Hid (LsS w (lst f k) va vc wr)) (fun _ u _ => n - (intOf u).toNat)
  case atStart => exact ⟨0, none, 0, by omega, rfl, rfl, s0⟩
  case round =>
    obtain ⟨k, va, vc, hk, rfl, rfl, hs⟩ := hrel
    clear s0
    by_cases hlt : k < n
    · have hkI : (k : Int) < n := by omega
      have xA := ix_row A n k hlt
      have xR := ix_bool (rb k) n j hj
      have u1 := (hmH.out.later hs.out.be).row hlt hlt
      have u2 := ((hmH.out.later hs.out.be).cell (i := k) (j := j) hlt hj).1
      rw [← hfH.out k] at u2
      have hll := lst_len f k
      have hmore : Hid (lst f (k + 1) = lst f k ++ (if f k = true then [(k : Int)] else [])) := rfl
      obtain ⟨b, hb⟩ : ∃ b, f k = b := ⟨_, rfl⟩
      rw [hb] at u2
      cases b with
      | true =>
        have hN : Hid (lst f (k + 1) = lst f k ++ [(k : Int)]) := by show _ = _; rw [hmore.out, if_pos hb]
        clear hmore hb
        generalize lst f k = L at *
        go_wp2_with (first
          | (at_builtin; (refine wpList_app1 rfl (.tmp 20) (.tmp 22) 30 rfl w.heap.size 3 iN _ 1 8 Try.underlying30 hiN hzN hsN hbN rfl (by decide) va vc (L.map chCells) (by rw [List.length_map]; rfl) hs.out.ow (chCells (k : Int)) rfl rfl (one1u _) (by rw [List.length_map]; unfold maxLen; omega) (by rw [List.length_map]; omega) hs.out.be.size ?_); intro va' vc' w2 hg; rw [List.length_map]; (have hg2 : Hid (LsS w (L ++ [(k : Int)]) va' vc' w2) := hs.out.grown hg); clear hg))
        go_roundw
        case rel => exact ⟨k + 1, va', vc', by omega, by go_num, by rw [hN.out, List.length_append]; rfl, by rw [hN.out]; exact hg2⟩
        case measure => simp [intOf]; omega
      | false =>
        have hN : Hid (lst f (k + 1) = lst f k) := by show _ = _; rw [hmore.out, if_neg (by rw [hb]; exact Bool.false_ne_true), List.append_nil]
        clear hmore hb
        go_wp2
        go_roundw
        case rel => exact ⟨k + 1, va, vc, by omega, by go_num, by rw [hN.out], by rw [hN.out]; exact hs⟩
        case measure => simp [intOf]; omega
    · have hk2 : k = n := by omega
      subst hk2
      go_wp2
      go_ret
      exact ⟨va, vc, rfl, hs.out⟩
end Go.Proofs.Ytkhhkgfaakgdfaa.pg
/- OrderAsks. -/
namespace Go.Proofs.Ytkhhkgfaakgdfaa.pg
open Go.ChangeShapes Go.WideShapes Go.ChangeAt Go.RowKit Go.Shelf
set_option linter.unusedVariables false
set_option linter.unusedSimpArgs false
set_option maxRecDepth 100000
attribute [local go_sem ↓] Go.wp_at_zero Go.wp_at_succ
theorem past_same {l : List Ev} (hlen : l.length ≤ 256) (hrt : ∀ x ∈ l, rightP x) {B : Nat → Nat → Bool} (hB : Tells (dpf l) B) {i : Nat} (hi : i < l.length) : lst (fPast l i i) 256 = lst (fun k => B k i) l.length := by
  rw [lst_cut 256 hlen fun k h1 _ => by unfold fPast; have : decide (k < i) = false := by simp; omega
                                        rw [this, Bool.false_and]]
  refine lst_congr _ fun k hk => ?_
  unfold fPast
  rw [bef_is hrt hB hk hi]
  by_cases h : k < i
  · simp [h]
  · have : B k i = false := by
      rw [Bool.eq_false_iff]
      intro q
      exact h ((hB k i).mp q).lt
    rw [this, Bool.and_false]
theorem place_is (l : List Ev) (la : Option Addr) (lc : Nat) (i : Int) (hI : (l.length : Int) ≤ 9223372036854775807) (R : Bool) (hR : decide (0 ≤ i ∧ i < l.length) = R) (w : World) : Calls Try.prog 25 #[.slice la l.length lc, .int .i64 i] w fun e w' => e = .returned (.bool R) ∧ w' = w := by
  have := place_any l la lc i hI w
  rwa [hR] at this
set_option maxHeartbeats 2000000 in
theorem asks_out (l : List Ev) (la : Option Addr) (lc : Nat) (i j : Int) (w : World) (hl : Rows w 26 la lc (l.map Ev.cells)) (h : ¬ (checkP l 0 ∧ (0 ≤ i ∧ i < l.length))) : Calls Try.prog 4 #[.slice la l.length lc, .int .i64 i, .int .i64 j] w fun e w' => e = .returned (.bool true) ∧ Below w.heap.size w w' := by
  have hlI := rows_len hl
  have hlH : Hid (Rows w 26 la lc (l.map Ev.cells)) := hl
  have cS : ∀ wx, Calls Try.prog 16 #[] wx fun e w' => e = .returned (.bool true) ∧ Below wx.heap.size wx w' := fun wx => speaks12_any wx
  obtain ⟨c, hc⟩ := check_ex l
  have cK : ∀ wx, Below w.heap.size w wx → Calls Try.prog 15 #[.slice la l.length lc] wx fun e w' => e = .returned (.int .i64 c) ∧ Below wx.heap.size wx w' := fun wx hb => rcheck_any l la lc wx (hlH.out.later hb) c hc
  by_cases h0 : c = 0
  · subst h0
    have hi : ¬ (0 ≤ i ∧ i < l.length) := fun q => h ⟨hc, q⟩
    have q2 : lookP l [i, j] 1 := .inr ⟨hc, .inr ⟨by simp, ⟨i, by simp, hi⟩, rfl⟩⟩
    have q1 : lookP l [i] 1 := .inr ⟨hc, .inr ⟨by simp, ⟨i, by simp, hi⟩, rfl⟩⟩
    have cB := before_err l la lc i j w hl 1 q2
    have cA : ∀ wx, Below w.heap.size w wx → Calls Try.prog 23 #[.slice la l.length lc, .int .i64 i, .int .i64 j] wx fun e w' => e = .returned (.tuple #[.bool false, .int .i64 1]) ∧ Below wx.heap.size wx w' := fun wx hb => apart_err l la lc i j wx (hlH.out.later hb) 1 q2
    have cP : ∀ wx, Below w.heap.size w wx → Calls Try.prog 24 #[.slice la l.length lc, .int .i64 i] wx fun e w' => e = .returned (.tuple #[.slice none 0 0, .int .i64 1]) ∧ Below wx.heap.size wx w' := fun wx hb => past_err l la lc i wx (hlH.out.later hb) 1 q1
    have d1 : ∀ wx, Calls Try.prog 25 #[.slice la l.length lc, .int .i64 i] wx fun e w' => e = .returned (.bool false) ∧ w' = wx := fun wx => place_is l la lc i hlI false (decide_eq_false hi) wx
    clear hl hc h hi q1 q2
    go_enter Try.func4, Try.ntmps4
    go_wp2_with (first
      | (go_at_call 22; (with_reducible refine cB.mono ?_); rintro e w1 ⟨rfl, hb1⟩; (have hB : Hid (Below w.heap.size w w1) := hb1); clear hb1 cB)
      | (go_at_call 23; (with_reducible refine (cA _ hB.out).mono ?_); rintro e w2 ⟨rfl, hb2⟩; (have hB : Hid (Below w.heap.size w w2) := bthen hB.out hb2); clear hb2 cA)
      | (go_at_call 24; (with_reducible refine (cP _ hB.out).mono ?_); rintro e w3 ⟨rfl, hb3⟩; (have hB : Hid (Below w.heap.size w w3) := bthen hB.out hb3); clear hb3 cP)
      | (go_at_call 15; (with_reducible refine (cK _ hB.out).mono ?_); rintro e w4 ⟨rfl, hb4⟩; (have hB : Hid (Below w.heap.size w w4) := bthen hB.out hb4); clear hb4 cK)
      | (go_at_call 25; (with_reducible refine (d1 _).mono ?_); rintro e w5 ⟨rfl, rfl⟩)
      | (go_at_call 16; (with_reducible refine (cS _).mono ?_); rintro e w6 ⟨rfl, hb6⟩; (have hB6 : Hid (Below w.heap.size w w6) := bthen hB.out hb6)))
    go_ret
    exact ⟨rfl, hB6.out⟩
  · have h7 : c = 2 ∨ c = 7 := by rcases hc with ⟨_, q⟩ | ⟨_, _, q⟩ | ⟨_, _, q⟩ <;> omega
    have cB := before_err l la lc i j w hl c (.inl ⟨hc, h7⟩)
    have cA : ∀ wx, Below w.heap.size w wx → Calls Try.prog 23 #[.slice la l.length lc, .int .i64 i, .int .i64 j] wx fun e w' => e = .returned (.tuple #[.bool false, .int .i64 c]) ∧ Below wx.heap.size wx w' := fun wx hb => apart_err l la lc i j wx (hlH.out.later hb) c (.inl ⟨hc, h7⟩)
    have cP : ∀ wx, Below w.heap.size w wx → Calls Try.prog 24 #[.slice la l.length lc, .int .i64 i] wx fun e w' => e = .returned (.tuple #[.slice none 0 0, .int .i64 c]) ∧ Below wx.heap.size wx w' := fun wx hb => past_err l la lc i wx (hlH.out.later hb) c (.inl ⟨hc, h7⟩)
    clear hl hc h h0
    rcases h7 with rfl | rfl
    all_goals
      go_enter Try.func4, Try.ntmps4
      go_wp2_with (first
        | (go_at_call 22; (with_reducible refine cB.mono ?_); rintro e w1 ⟨rfl, hb1⟩; (have hB : Hid (Below w.heap.size w w1) := hb1); clear hb1 cB)
        | (go_at_call 23; (with_reducible refine (cA _ hB.out).mono ?_); rintro e w2 ⟨rfl, hb2⟩; (have hB : Hid (Below w.heap.size w w2) := bthen hB.out hb2); clear hb2 cA)
        | (go_at_call 24; (with_reducible refine (cP _ hB.out).mono ?_); rintro e w3 ⟨rfl, hb3⟩; (have hB : Hid (Below w.heap.size w w3) := bthen hB.out hb3); clear hb3 cP)
        | (go_at_call 15; (with_reducible refine (cK _ hB.out).mono ?_); rintro e w4 ⟨rfl, hb4⟩; (have hB : Hid (Below w.heap.size w w4) := bthen hB.out hb4); clear hb4 cK)
        | (go_at_call 16; (with_reducible refine (cS _).mono ?_); rintro e w6 ⟨rfl, hb6⟩; (have hB6 : Hid (Below w.heap.size w w6) := bthen hB.out hb6)))
      go_ret
      exact ⟨rfl, hB6.out⟩
/-- What the law holds of the past, at once. -/
structure PastH (w W : World) (l : List Ev) (i : Nat) (L : List Int) (va : Option Addr) (vc : Nat) : Prop where
  b : Below w.heap.size w W
  p : Rows W 1 va vc (L.map chCells)
theorem PastH.later {w W W' : World} {l : List Ev} {i : Nat} {L : List Int} {va : Option Addr} {vc : Nat} (h : PastH w W l i L va vc) (hb : Below W.heap.size W W') : PastH w W' l i L va vc := ⟨bthen h.b hb, h.p.later hb⟩
set_option maxHeartbeats 2000000 in
theorem asks_half (l : List Ev) (la : Option Addr) (lc : Nat) (i : Nat) (j : Int) (w : World) (hl : Rows w 26 la lc (l.map Ev.cells)) (hlen : l.length ≤ 256) (hrt : ∀ x ∈ l, rightP x) (hi : i < l.length) (hj : ¬ (0 ≤ j ∧ j < l.length)) : Calls Try.prog 4 #[.slice la l.length lc, .int .i64 (i : Int), .int .i64 j] w fun e w' => e = .returned (.bool true) ∧ Below w.heap.size w w' := by
  have hlI := rows_len hl
  have hlH : Hid (Rows w 26 la lc (l.map Ev.cells)) := hl
  have hrtH : Hid (∀ x ∈ l, rightP x) := hrt
  have hc : checkP l 0 := .inr (.inr ⟨hlen, hrt, rfl⟩)
  obtain ⟨B, hB⟩ := tells_some (dpf l)
  have cS : ∀ wx, Calls Try.prog 16 #[] wx fun e w' => e = .returned (.bool true) ∧ Below wx.heap.size wx w' := fun wx => speaks12_any wx
  have cK : ∀ wx, Below w.heap.size w wx → Calls Try.prog 15 #[.slice la l.length lc] wx fun e w' => e = .returned (.int .i64 0) ∧ Below wx.heap.size wx w' := fun wx hb => rcheck_any l la lc wx (hlH.out.later hb) 0 hc
  have q2 : lookP l [(i : Int), j] 1 := .inr ⟨hc, .inr ⟨by simp, ⟨j, by simp, hj⟩, rfl⟩⟩
  have cBf := before_err l la lc i j w hl 1 q2
  have cA : ∀ wx, Below w.heap.size w wx → Calls Try.prog 23 #[.slice la l.length lc, .int .i64 (i : Int), .int .i64 j] wx fun e w' => e = .returned (.tuple #[.bool false, .int .i64 1]) ∧ Below wx.heap.size wx w' := fun wx hb => apart_err l la lc i j wx (hlH.out.later hb) 1 q2
  obtain ⟨L, hL⟩ : ∃ L, L = lst (fun k => B k i) l.length := ⟨_, rfl⟩
  have cP : ∀ wx, Below w.heap.size w wx → Calls Try.prog 24 #[.slice la l.length lc, .int .i64 (i : Int)] wx fun e w' => ∃ va vc, e = .returned (.tuple #[.slice va L.length vc, .int .i64 0]) ∧ Rows w' 1 va vc (L.map chCells) ∧ Below wx.heap.size wx w' := fun wx hb => (past_ok l la lc i wx (hlH.out.later hb) hlen hrtH.out hi).mono fun e w' ⟨va, vc, he, hs⟩ => by
    rw [past_same hlen hrtH.out hB hi, ← hL] at he hs
    exact ⟨va, vc, he, hs.rows, hs.be⟩
  have cM : ∀ wx, Below w.heap.size w wx → Calls Try.prog 26 #[.slice la l.length lc] wx fun e w' => ∃ A rb, e = .returned (.slice (some ⟨A, 0, none⟩) l.length l.length) ∧ RbS wx w' A l.length l.length rb B := fun wx hb => rbef_any l la lc wx (hlH.out.later hb) hlen B hB
  have cR : ∀ lo A rb wx, Hid (Mat wx lo A l.length l.length rb B) → Calls Try.prog 27 #[.slice (some ⟨A, 0, none⟩) l.length l.length, .int .i64 (i : Int)] wx fun e w' => ∃ va vc, e = .returned (.slice va L.length vc) ∧ Rows w' 1 va vc (L.map chCells) ∧ Below wx.heap.size wx w' := fun lo A rb wx h => (rpast_any lo A l.length rb B i wx h.out hlen hi).mono fun e w' ⟨va, vc, he, hs⟩ => by
    rw [← hL] at he hs
    exact ⟨va, vc, he, hs.rows, hs.be⟩
  have cI : ∀ va vc ua uc wx, Rows wx 1 va vc (L.map chCells) → Rows wx 1 ua uc (L.map chCells) → Calls Try.prog 19 #[.slice va L.length vc, .slice ua L.length uc] wx fun e w' => e = .returned (.bool true) ∧ Below wx.heap.size wx w' := fun va vc ua uc wx h1 h2 => sameInts_u L va ua vc uc wx h1 h2
  have d1 : ∀ wx, Calls Try.prog 25 #[.slice la l.length lc, .int .i64 (i : Int)] wx fun e w' => e = .returned (.bool true) ∧ w' = wx := fun wx => place_is l la lc i hlI true (decide_eq_true ⟨by omega, by omega⟩) wx
  have d2 : ∀ wx, Calls Try.prog 25 #[.slice la l.length lc, .int .i64 j] wx fun e w' => e = .returned (.bool false) ∧ w' = wx := fun wx => place_is l la lc j hlI false (decide_eq_false hj) wx
  clear hl hc hj q2 hrt hL hB
  go_enter Try.func4, Try.ntmps4
  go_wp2_with (first
    | (go_at_call 22; (with_reducible refine cBf.mono ?_); rintro e w1 ⟨rfl, hb1⟩; (have hB1 : Hid (Below w.heap.size w w1) := hb1); clear hb1 cBf)
    | (go_at_call 23; (with_reducible refine (cA _ hB1.out).mono ?_); rintro e w2 ⟨rfl, hb2⟩; (have hB2 : Hid (Below w.heap.size w w2) := bthen hB1.out hb2); clear hb2 cA hB1)
    | (go_at_call 24; (with_reducible refine (cP _ hB2.out).mono ?_); rintro e w3 ⟨va, vc, rfl, hr3, hb3⟩; (have hP : Hid (PastH w w3 l i L va vc) := ⟨bthen hB2.out hb3, hr3⟩); clear hb3 hr3 cP hB2)
    | (go_at_call 15; (with_reducible refine (cK _ hP.out.b).mono ?_); rintro e w4 ⟨rfl, hb4⟩; (have hP : Hid (PastH w w4 l i L va vc) := hP.out.later hb4); clear hb4 cK)
    | (go_at_call 25; (with_reducible refine (d1 _).mono ?_); rintro e w5 ⟨rfl, rfl⟩; clear d1)
    | (go_at_call 25; (with_reducible refine (d2 _).mono ?_); rintro e w5 ⟨rfl, rfl⟩; clear d2)
    | (go_at_call 16; (with_reducible refine (cS _).mono ?_); rintro e w6 ⟨rfl, hb6⟩; (have hP : Hid (PastH w w6 l i L va vc) := hP.out.later hb6); clear hb6)
    | (go_at_call 26; (with_reducible refine (cM _ hP.out.b).mono ?_); rintro e w7 ⟨A, rb, rfl, hm7⟩; (have hP : Hid (PastH w w7 l i L va vc) := hP.out.later hm7.b); (have hm : Hid (Mat w7 w6.heap.size A l.length l.length rb B) := hm7.m); clear hm7 cM)
    | (go_at_call 27; (with_reducible refine (cR _ _ _ _ hm).mono ?_); rintro e w8 ⟨ua, uc, rfl, hr8, hb8⟩; (have hP : Hid (PastH w w8 l i L va vc) := hP.out.later hb8); (have hr8H : Hid (Rows w8 1 ua uc (L.map chCells)) := hr8); clear hr8 hb8 cR)
    | (go_at_call 19; (with_reducible refine (cI _ _ _ _ _ hP.out.p hr8H.out).mono ?_); rintro e w9 ⟨rfl, hb9⟩; (have hP : Hid (PastH w w9 l i L va vc) := hP.out.later hb9); clear hb9 cI))
  go_ret
  exact ⟨rfl, hP.out.b⟩
end Go.Proofs.Ytkhhkgfaakgdfaa.pg
