/- OrderByClocks. -/
import Derived.Test.YtkhhkgfaakgdfaaM35
import Derived.Test.YtkhhkgfaakgdfaaM33
import Derived.Test.YtkhhkgfaakgdfaaM34
namespace Go.Proofs.Ytkhhkgfaakgdfaa.pg
open Go.ChangeShapes Go.WideShapes Go.ChangeAt Go.RowKit Go.Shelf
set_option linter.unusedVariables false
set_option linter.unusedSimpArgs false
set_option maxRecDepth 100000
attribute [local go_sem ↓] Go.wp_at_zero Go.wp_at_succ
theorem place_any (l : List Ev) (la : Option Addr) (lc : Nat) (i : Int) (hI : (l.length : Int) ≤ 9223372036854775807) (w : World) : Calls Try.prog 25 #[.slice la l.length lc, .int .i64 i] w fun e w' => e = .returned (.bool (decide (0 ≤ i ∧ i < l.length))) ∧ w' = w := by
  by_cases h0 : 0 ≤ i
  · by_cases h1 : i < l.length
    · have hh : Hid (decide (0 ≤ i ∧ i < l.length) = true) := by show _ = _; simp [h0, h1]
      rw [hh.out]
      go_enter Try.func25, Try.ntmps25
      go_wp2
      go_ret
      exact ⟨rfl, rfl⟩
    · have hh : Hid (decide (0 ≤ i ∧ i < l.length) = false) := by show _ = _; simp [h0, h1]
      have hd : decide (i < (l.length : Int)) = false := by simpa using h1
      rw [hh.out]
      clear h1
      go_enter Try.func25, Try.ntmps25
      go_wp2
      go_ret
      exact ⟨rfl, rfl⟩
  · have hh : Hid (decide (0 ≤ i ∧ i < l.length) = false) := by show _ = _; simp [h0]
    have hd : decide (0 ≤ i) = false := by simpa using h0
    rw [hh.out]
    clear h0
    go_enter Try.func25, Try.ntmps25
    go_wp2
    go_ret
    exact ⟨rfl, rfl⟩
/-- As far as a loop over a clock's numbers has come. -/
def ulTo (x y : Ck) (b : Bool) (k : Nat) : Bool := b && (List.range k).all fun q => decide (x.of q ≤ y.of q)
theorem ulTo_more (x y : Ck) (b : Bool) (k : Nat) : ulTo x y b (k + 1) = (ulTo x y b k && decide (x.of k ≤ y.of k)) := by
  unfold ulTo
  rw [List.range_succ, List.all_append]
  simp [Bool.and_assoc]
section
variable {l : List Ev} (hrt : ∀ x ∈ l, rightP x)
include hrt
theorem under_eq {i j : Nat} (hi : i < l.length) (hj : j < l.length) : ulTo ((rel (evf l) l.length).1.getD i zeroK) ((rel (evf l) l.length).1.getD j zeroK) (decide (i < j)) 6 = befK (rel (evf l) l.length).1 l i j := by
  obtain ⟨B, hB⟩ := tells_some (dpf l)
  have hl := rel_len (evf l) l.length
  have ei : (rel (evf l) l.length).1[i]? = some ((rel (evf l) l.length).1.getD i zeroK) := by rw [List.getD_eq_getElem?_getD, List.getElem?_eq_getElem (by omega)]; rfl
  have ej : (rel (evf l) l.length).1[j]? = some ((rel (evf l) l.length).1.getD j zeroK) := by rw [List.getD_eq_getElem?_getD, List.getElem?_eq_getElem (by omega)]; rfl
  have xi := rel_is hrt hB l.length (Nat.le_refl _) i _ ei
  have xj := rel_is hrt hB l.length (Nat.le_refl _) j _ ej
  unfold befK
  generalize (rel (evf l) l.length).1.getD i zeroK = x at *
  generalize (rel (evf l) l.length).1.getD j zeroK = y at *
  have hg : gof l i < 6 := gof_lt hrt hi
  unfold ulTo
  by_cases hij : i < j
  · simp only [hij, decide_true, Bool.true_and]
    rw [Bool.eq_iff_iff, List.all_eq_true, decide_eq_true_eq]
    have h1 := before_iff hB (ord_ok hrt) hij hj
    have h2 := under_iff hB (ord_ok hrt) hij hj
    constructor
    · intro h
      have := h (gof l i) (List.mem_range.mpr hg)
      exact of_decide_eq_true this
    · intro h q hq
      rw [List.mem_range] at hq
      have hb : B i j = true := h1.mp (by
        have a := xi (gof l i) hg
        have b := xj (gof l i) hg
        unfold gof at a b ⊢
        omega)
      have := (h2.mpr hb) q
      rw [decide_eq_true_eq, xi q hq, xj q hq]
      omega
  · simp [hij]
end
end Go.Proofs.Ytkhhkgfaakgdfaa.pg
/- OrderAsks. -/
namespace Go.Proofs.Ytkhhkgfaakgdfaa.pg
open Go.ChangeShapes Go.WideShapes Go.ChangeAt Go.RowKit Go.Shelf
set_option linter.unusedVariables false
set_option linter.unusedSimpArgs false
set_option maxRecDepth 100000
attribute [local go_sem ↓] Go.wp_at_zero Go.wp_at_succ
theorem past_same {l : List Ev} (hlen : l.length ≤ 256) (hrt : ∀ x ∈ l, rightP x) {B : Nat → Nat → Bool} (hB : Tells (dpf l) B) {i : Nat} (hi : i < l.length) : lst (fPast l i i) 256 = lst (fun k => B k i) l.length := by
  rw [lst_cut 256 hlen fun k h1 _ => by unfold fPast; have : decide (k < i) = false := by simp; omega
                                        rw [this, Bool.false_and]]
  refine lst_congr _ fun k hk => ?_
  unfold fPast
  rw [bef_is hrt hB hk hi]
  by_cases h : k < i
  · simp [h]
  · have : B k i = false := by
      rw [Bool.eq_false_iff]
      intro q
      exact h ((hB k i).mp q).lt
    rw [this, Bool.and_false]
theorem place_is (l : List Ev) (la : Option Addr) (lc : Nat) (i : Int) (hI : (l.length : Int) ≤ 9223372036854775807) (R : Bool) (hR : decide (0 ≤ i ∧ i < l.length) = R) (w : World) : Calls Try.prog 25 #[.slice la l.length lc, .int .i64 i] w fun e w' => e = .returned (.bool R) ∧ w' = w := by
  have := place_any l la lc i hI w
  rwa [hR] at this
set_option maxHeartbeats 2000000 in
theorem asks_out (l : List Ev) (la : Option Addr) (lc : Nat) (i j : Int) (w : World) (hl : Rows w 26 la lc (l.map Ev.cells)) (h : ¬ (checkP l 0 ∧ (0 ≤ i ∧ i < l.length))) : Calls Try.prog 4 #[.slice la l.length lc, .int .i64 i, .int .i64 j] w fun e w' => e = .returned (.bool true) ∧ Below w.heap.size w w' := by
  have hlI := rows_len hl
  have hlH : Hid (Rows w 26 la lc (l.map Ev.cells)) := hl
  have cS : ∀ wx, Calls Try.prog 16 #[] wx fun e w' => e = .returned (.bool true) ∧ Below wx.heap.size wx w' := fun wx => speaks12_any wx
  obtain ⟨c, hc⟩ := check_ex l
  have cK : ∀ wx, Below w.heap.size w wx → Calls Try.prog 15 #[.slice la l.length lc] wx fun e w' => e = .returned (.int .i64 c) ∧ Below wx.heap.size wx w' := fun wx hb => rcheck_any l la lc wx (hlH.out.later hb) c hc
  by_cases h0 : c = 0
  · subst h0
    have hi : ¬ (0 ≤ i ∧ i < l.length) := fun q => h ⟨hc, q⟩
    have q2 : lookP l [i, j] 1 := .inr ⟨hc, .inr ⟨by simp, ⟨i, by simp, hi⟩, rfl⟩⟩
    have q1 : lookP l [i] 1 := .inr ⟨hc, .inr ⟨by simp, ⟨i, by simp, hi⟩, rfl⟩⟩
    have cB := before_err l la lc i j w hl 1 q2
    have cA : ∀ wx, Below w.heap.size w wx → Calls Try.prog 23 #[.slice la l.length lc, .int .i64 i, .int .i64 j] wx fun e w' => e = .returned (.tuple #[.bool false, .int .i64 1]) ∧ Below wx.heap.size wx w' := fun wx hb => apart_err l la lc i j wx (hlH.out.later hb) 1 q2
    have cP : ∀ wx, Below w.heap.size w wx → Calls Try.prog 24 #[.slice la l.length lc, .int .i64 i] wx fun e w' => e = .returned (.tuple #[.slice none 0 0, .int .i64 1]) ∧ Below wx.heap.size wx w' := fun wx hb => past_err l la lc i wx (hlH.out.later hb) 1 q1
    have d1 : ∀ wx, Calls Try.prog 25 #[.slice la l.length lc, .int .i64 i] wx fun e w' => e = .returned (.bool false) ∧ w' = wx := fun wx => place_is l la lc i hlI false (decide_eq_false hi) wx
    clear hl hc h hi q1 q2
    go_enter Try.func4, Try.ntmps4
    go_wp2_with (first
      | (go_at_call 22; (with_reducible refine cB.mono ?_); rintro e w1 ⟨rfl, hb1⟩; (have hB : Hid (Below w.heap.size w w1) := hb1); clear hb1 cB)
      | (go_at_call 23; (with_reducible refine (cA _ hB.out).mono ?_); rintro e w2 ⟨rfl, hb2⟩; (have hB : Hid (Below w.heap.size w w2) := bthen hB.out hb2); clear hb2 cA)
      | (go_at_call 24; (with_reducible refine (cP _ hB.out).mono ?_); rintro e w3 ⟨rfl, hb3⟩; (have hB : Hid (Below w.heap.size w w3) := bthen hB.out hb3); clear hb3 cP)
      | (go_at_call 15; (with_reducible refine (cK _ hB.out).mono ?_); rintro e w4 ⟨rfl, hb4⟩; (have hB : Hid (Below w.heap.size w w4) := bthen hB.out hb4); clear hb4 cK)
      | (go_at_call 25; (with_reducible refine (d1 _).mono ?_); rintro e w5 ⟨rfl, rfl⟩)
      | (go_at_call 16; (with_reducible refine (cS _).mono ?_); rintro e w6 ⟨rfl, hb6⟩; (have hB6 : Hid (Below w.heap.size w w6) := bthen hB.out hb6)))
    go_ret
    exact ⟨rfl, hB6.out⟩
  · have h7 : c = 2 ∨ c = 7 := by rcases hc with ⟨_, q⟩ | ⟨_, _, q⟩ | ⟨_, _, q⟩ <;> omega
    have cB := before_err l la lc i j w hl c (.inl ⟨hc, h7⟩)
    have cA : ∀ wx, Below w.heap.size w wx → Calls Try.prog 23 #[.slice la l.length lc, .int .i64 i, .int .i64 j] wx fun e w' => e = .returned (.tuple #[.bool false, .int .i64 c]) ∧ Below wx.heap.size wx w' := fun wx hb => apart_err l la lc i j wx (hlH.out.later hb) c (.inl ⟨hc, h7⟩)
    have cP : ∀ wx, Below w.heap.size w wx → Calls Try.prog 24 #[.slice la l.length lc, .int .i64 i] wx fun e w' => e = .returned (.tuple #[.slice none 0 0, .int .i64 c]) ∧ Below wx.heap.size wx w' := fun wx hb => past_err l la lc i wx (hlH.out.later hb) c (.inl ⟨hc, h7⟩)
    clear hl hc h h0
    rcases h7 with rfl | rfl
    all_goals
      go_enter Try.func4, Try.ntmps4
      go_wp2_with (first
        | (go_at_call 22; (with_reducible refine cB.mono ?_); rintro e w1 ⟨rfl, hb1⟩; (have hB : Hid (Below w.heap.size w w1) := hb1); clear hb1 cB)
        | (go_at_call 23; (with_reducible refine (cA _ hB.out).mono ?_); rintro e w2 ⟨rfl, hb2⟩; (have hB : Hid (Below w.heap.size w w2) := bthen hB.out hb2); clear hb2 cA)
        | (go_at_call 24; (with_reducible refine (cP _ hB.out).mono ?_); rintro e w3 ⟨rfl, hb3⟩; (have hB : Hid (Below w.heap.size w w3) := bthen hB.out hb3); clear hb3 cP)
        | (go_at_call 15; (with_reducible refine (cK _ hB.out).mono ?_); rintro e w4 ⟨rfl, hb4⟩; (have hB : Hid (Below w.heap.size w w4) := bthen hB.out hb4); clear hb4 cK)
        | (go_at_call 16; (with_reducible refine (cS _).mono ?_); rintro e w6 ⟨rfl, hb6⟩; (have hB6 : Hid (Below w.heap.size w w6) := bthen hB.out hb6)))
      go_ret
      exact ⟨rfl, hB6.out⟩
/-- What the law holds of the past, at once. -/
structure PastH (w W : World) (l : List Ev) (i : Nat) (L : List Int) (va : Option Addr) (vc : Nat) : Prop where
  b : Below w.heap.size w W
  p : Rows W 1 va vc (L.map chCells)
theorem PastH.later {w W W' : World} {l : List Ev} {i : Nat} {L : List Int} {va : Option Addr} {vc : Nat} (h : PastH w W l i L va vc) (hb : Below W.heap.size W W') : PastH w W' l i L va vc := ⟨bthen h.b hb, h.p.later hb⟩
set_option maxHeartbeats 2000000 in
theorem asks_half (l : List Ev) (la : Option Addr) (lc : Nat) (i : Nat) (j : Int) (w : World) (hl : Rows w 26 la lc (l.map Ev.cells)) (hlen : l.length ≤ 256) (hrt : ∀ x ∈ l, rightP x) (hi : i < l.length) (hj : ¬ (0 ≤ j ∧ j < l.length)) : Calls Try.prog 4 #[.slice la l.length lc, .int .i64 (i : Int), .int .i64 j] w fun e w' => e = .returned (.bool true) ∧ Below w.heap.size w w' := by
  have hlI := rows_len hl
  have hlH : Hid (Rows w 26 la lc (l.map Ev.cells)) := hl
  have hrtH : Hid (∀ x ∈ l, rightP x) := hrt
  have hc : checkP l 0 := .inr (.inr ⟨hlen, hrt, rfl⟩)
  obtain ⟨B, hB⟩ := tells_some (dpf l)
  have cS : ∀ wx, Calls Try.prog 16 #[] wx fun e w' => e = .returned (.bool true) ∧ Below wx.heap.size wx w' := fun wx => speaks12_any wx
  have cK : ∀ wx, Below w.heap.size w wx → Calls Try.prog 15 #[.slice la l.length lc] wx fun e w' => e = .returned (.int .i64 0) ∧ Below wx.heap.size wx w' := fun wx hb => rcheck_any l la lc wx (hlH.out.later hb) 0 hc
  have q2 : lookP l [(i : Int), j] 1 := .inr ⟨hc, .inr ⟨by simp, ⟨j, by simp, hj⟩, rfl⟩⟩
  have cBf := before_err l la lc i j w hl 1 q2
  have cA : ∀ wx, Below w.heap.size w wx → Calls Try.prog 23 #[.slice la l.length lc, .int .i64 (i : Int), .int .i64 j] wx fun e w' => e = .returned (.tuple #[.bool false, .int .i64 1]) ∧ Below wx.heap.size wx w' := fun wx hb => apart_err l la lc i j wx (hlH.out.later hb) 1 q2
  obtain ⟨L, hL⟩ : ∃ L, L = lst (fun k => B k i) l.length := ⟨_, rfl⟩
  have cP : ∀ wx, Below w.heap.size w wx → Calls Try.prog 24 #[.slice la l.length lc, .int .i64 (i : Int)] wx fun e w' => ∃ va vc, e = .returned (.tuple #[.slice va L.length vc, .int .i64 0]) ∧ Rows w' 1 va vc (L.map chCells) ∧ Below wx.heap.size wx w' := fun wx hb => (past_ok l la lc i wx (hlH.out.later hb) hlen hrtH.out hi).mono fun e w' ⟨va, vc, he, hs⟩ => by
    rw [past_same hlen hrtH.out hB hi, ← hL] at he hs
    exact ⟨va, vc, he, hs.rows, hs.be⟩
  have cM : ∀ wx, Below w.heap.size w wx → Calls Try.prog 26 #[.slice la l.length lc] wx fun e w' => ∃ A rb, e = .returned (.slice (some ⟨A, 0, none⟩) l.length l.length) ∧ RbS wx w' A l.length l.length rb B := fun wx hb => rbef_any l la lc wx (hlH.out.later hb) hlen B hB
  have cR : ∀ lo A rb wx, Hid (Mat wx lo A l.length l.length rb B) → Calls Try.prog 27 #[.slice (some ⟨A, 0, none⟩) l.length l.length, .int .i64 (i : Int)] wx fun e w' => ∃ va vc, e = .returned (.slice va L.length vc) ∧ Rows w' 1 va vc (L.map chCells) ∧ Below wx.heap.size wx w' := fun lo A rb wx h => (rpast_any lo A l.length rb B i wx h.out hlen hi).mono fun e w' ⟨va, vc, he, hs⟩ => by
    rw [← hL] at he hs
    exact ⟨va, vc, he, hs.rows, hs.be⟩
  have cI : ∀ va vc ua uc wx, Rows wx 1 va vc (L.map chCells) → Rows wx 1 ua uc (L.map chCells) → Calls Try.prog 19 #[.slice va L.length vc, .slice ua L.length uc] wx fun e w' => e = .returned (.bool true) ∧ Below wx.heap.size wx w' := fun va vc ua uc wx h1 h2 => sameInts_u L va ua vc uc wx h1 h2
  have d1 : ∀ wx, Calls Try.prog 25 #[.slice la l.length lc, .int .i64 (i : Int)] wx fun e w' => e = .returned (.bool true) ∧ w' = wx := fun wx => place_is l la lc i hlI true (decide_eq_true ⟨by omega, by omega⟩) wx
  have d2 : ∀ wx, Calls Try.prog 25 #[.slice la l.length lc, .int .i64 j] wx fun e w' => e = .returned (.bool false) ∧ w' = wx := fun wx => place_is l la lc j hlI false (decide_eq_false hj) wx
  clear hl hc hj q2 hrt hL hB
  go_enter Try.func4, Try.ntmps4
  go_wp2_with (first
    | (go_at_call 22; (with_reducible refine cBf.mono ?_); rintro e w1 ⟨rfl, hb1⟩; (have hB1 : Hid (Below w.heap.size w w1) := hb1); clear hb1 cBf)
    | (go_at_call 23; (with_reducible refine (cA _ hB1.out).mono ?_); rintro e w2 ⟨rfl, hb2⟩; (have hB2 : Hid (Below w.heap.size w w2) := bthen hB1.out hb2); clear hb2 cA hB1)
    | (go_at_call 24; (with_reducible refine (cP _ hB2.out).mono ?_); rintro e w3 ⟨va, vc, rfl, hr3, hb3⟩; (have hP : Hid (PastH w w3 l i L va vc) := ⟨bthen hB2.out hb3, hr3⟩); clear hb3 hr3 cP hB2)
    | (go_at_call 15; (with_reducible refine (cK _ hP.out.b).mono ?_); rintro e w4 ⟨rfl, hb4⟩; (have hP : Hid (PastH w w4 l i L va vc) := hP.out.later hb4); clear hb4 cK)
    | (go_at_call 25; (with_reducible refine (d1 _).mono ?_); rintro e w5 ⟨rfl, rfl⟩; clear d1)
    | (go_at_call 25; (with_reducible refine (d2 _).mono ?_); rintro e w5 ⟨rfl, rfl⟩; clear d2)
    | (go_at_call 16; (with_reducible refine (cS _).mono ?_); rintro e w6 ⟨rfl, hb6⟩; (have hP : Hid (PastH w w6 l i L va vc) := hP.out.later hb6); clear hb6)
    | (go_at_call 26; (with_reducible refine (cM _ hP.out.b).mono ?_); rintro e w7 ⟨A, rb, rfl, hm7⟩; (have hP : Hid (PastH w w7 l i L va vc) := hP.out.later hm7.b); (have hm : Hid (Mat w7 w6.heap.size A l.length l.length rb B) := hm7.m); clear hm7 cM)
    | (go_at_call 27; (with_reducible refine (cR _ _ _ _ hm).mono ?_); rintro e w8 ⟨ua, uc, rfl, hr8, hb8⟩; (have hP : Hid (PastH w w8 l i L va vc) := hP.out.later hb8); (have hr8H : Hid (Rows w8 1 ua uc (L.map chCells)) := hr8); clear hr8 hb8 cR)
    | (go_at_call 19; (with_reducible refine (cI _ _ _ _ _ hP.out.p hr8H.out).mono ?_); rintro e w9 ⟨rfl, hb9⟩; (have hP : Hid (PastH w w9 l i L va vc) := hP.out.later hb9); clear hb9 cI))
  go_ret
  exact ⟨rfl, hP.out.b⟩
end Go.Proofs.Ytkhhkgfaakgdfaa.pg
