/- OrderAsks, of two places that are there; and whatever is asked. -/
import Derived.Test.YtkhhkgfaakgdfaaM36
namespace Go.Proofs.Ytkhhkgfaakgdfaa.pg
open Go.ChangeShapes Go.WideShapes Go.ChangeAt Go.RowKit Go.Shelf
set_option linter.unusedVariables false
set_option linter.unusedSimpArgs false
set_option maxRecDepth 100000
attribute [local go_sem ↓] Go.wp_at_zero Go.wp_at_succ
set_option maxHeartbeats 2000000 in
theorem asks_in (l : List Ev) (la : Option Addr) (lc : Nat) (i j : Nat) (w : World) (hl : Rows w 26 la lc (l.map Ev.cells)) (hlen : l.length ≤ 256) (hrt : ∀ x ∈ l, rightP x) (hi : i < l.length) (hj : j < l.length) : Calls Try.prog 4 #[.slice la l.length lc, .int .i64 (i : Int), .int .i64 (j : Int)] w fun e w' => e = .returned (.bool true) ∧ Below w.heap.size w w' := by
  have hlI := rows_len hl
  have hlH : Hid (Rows w 26 la lc (l.map Ev.cells)) := hl
  have hrtH : Hid (∀ x ∈ l, rightP x) := hrt
  have hc : checkP l 0 := .inr (.inr ⟨hlen, hrt, rfl⟩)
  obtain ⟨B, hB⟩ := tells_some (dpf l)
  have cS : ∀ wx, Calls Try.prog 16 #[] wx fun e w' => e = .returned (.bool true) ∧ Below wx.heap.size wx w' := fun wx => speaks12_any wx
  have cK : ∀ wx, Below w.heap.size w wx → Calls Try.prog 15 #[.slice la l.length lc] wx fun e w' => e = .returned (.int .i64 0) ∧ Below wx.heap.size wx w' := fun wx hb => rcheck_any l la lc wx (hlH.out.later hb) 0 hc
  obtain ⟨P, hP0⟩ : ∃ P, B i j = P := ⟨_, rfl⟩
  obtain ⟨Q, hQ0⟩ : ∃ Q, B j i = Q := ⟨_, rfl⟩
  obtain ⟨R, hR0⟩ : ∃ R, R = (!(i == j) && (!P && !Q)) := ⟨_, rfl⟩
  have cBf := before_ok l la lc i j w hl hlen hrt hi hj P (by show _ = _; rw [bef_is hrt hB hi hj, hP0])
  have cA : ∀ wx, Below w.heap.size w wx → Calls Try.prog 23 #[.slice la l.length lc, .int .i64 (i : Int), .int .i64 (j : Int)] wx fun e w' => e = .returned (.tuple #[.bool R, .int .i64 0]) ∧ Below wx.heap.size wx w' := fun wx hb => apart_ok l la lc i j wx (hlH.out.later hb) hlen hrtH.out hi hj R (by show _ = _; rw [bef_is hrtH.out hB hi hj, bef_is hrtH.out hB hj hi, hP0, hQ0]; exact hR0)
  obtain ⟨L, hL⟩ : ∃ L, L = lst (fun k => B k i) l.length := ⟨_, rfl⟩
  have cP : ∀ wx, Below w.heap.size w wx → Calls Try.prog 24 #[.slice la l.length lc, .int .i64 (i : Int)] wx fun e w' => ∃ va vc, e = .returned (.tuple #[.slice va L.length vc, .int .i64 0]) ∧ Rows w' 1 va vc (L.map chCells) ∧ Below wx.heap.size wx w' := fun wx hb => (past_ok l la lc i wx (hlH.out.later hb) hlen hrtH.out hi).mono fun e w' ⟨va, vc, he, hs⟩ => by
    rw [past_same hlen hrtH.out hB hi, ← hL] at he hs
    exact ⟨va, vc, he, hs.rows, hs.be⟩
  have cM : ∀ wx, Below w.heap.size w wx → Calls Try.prog 26 #[.slice la l.length lc] wx fun e w' => ∃ A rb, e = .returned (.slice (some ⟨A, 0, none⟩) l.length l.length) ∧ RbS wx w' A l.length l.length rb B := fun wx hb => rbef_any l la lc wx (hlH.out.later hb) hlen B hB
  have cR : ∀ lo A rb wx, Hid (Mat wx lo A l.length l.length rb B) → Calls Try.prog 27 #[.slice (some ⟨A, 0, none⟩) l.length l.length, .int .i64 (i : Int)] wx fun e w' => ∃ va vc, e = .returned (.slice va L.length vc) ∧ Rows w' 1 va vc (L.map chCells) ∧ Below wx.heap.size wx w' := fun lo A rb wx h => (rpast_any lo A l.length rb B i wx h.out hlen hi).mono fun e w' ⟨va, vc, he, hs⟩ => by
    rw [← hL] at he hs
    exact ⟨va, vc, he, hs.rows, hs.be⟩
  have cI : ∀ va vc ua uc wx, Rows wx 1 va vc (L.map chCells) → Rows wx 1 ua uc (L.map chCells) → Calls Try.prog 19 #[.slice va L.length vc, .slice ua L.length uc] wx fun e w' => e = .returned (.bool true) ∧ Below wx.heap.size wx w' := fun va vc ua uc wx h1 h2 => sameInts_u L va ua vc uc wx h1 h2
  have d1 : ∀ wx, Calls Try.prog 25 #[.slice la l.length lc, .int .i64 (i : Int)] wx fun e w' => e = .returned (.bool true) ∧ w' = wx := fun wx => place_is l la lc i hlI true (decide_eq_true ⟨by omega, by omega⟩) wx
  have d2 : ∀ wx, Calls Try.prog 25 #[.slice la l.length lc, .int .i64 (j : Int)] wx fun e w' => e = .returned (.bool true) ∧ w' = wx := fun wx => place_is l la lc j hlI true (decide_eq_true ⟨by omega, by omega⟩) wx
  have hPH : Hid (B i j = P) := hP0
  have hQH : Hid (B j i = Q) := hQ0
  have hii : Hid (∀ k, B k k = false) := fun k => by
    rw [Bool.eq_false_iff]
    intro q
    exact absurd ((hB k k).mp q).lt (by omega)
  clear hl hc hrt hL hB hP0 hQ0
  by_cases hij : i = j
  · subst hij
    have e1 : P = false := by rw [← hPH.out]; exact hii.out i
    have e2 : Q = false := by rw [← hQH.out]; exact hii.out i
    subst e1
    subst e2
    have e3 : R = false := by rw [hR0]; simp
    subst e3
    clear hR0 hii
    go_enter Try.func4, Try.ntmps4
    go_wp2_with (first
      | (go_at_call 22; (with_reducible refine cBf.mono ?_); rintro e w1 ⟨rfl, hb1⟩; (have hB1 : Hid (Below w.heap.size w w1) := hb1); clear hb1 cBf)
      | (go_at_call 23; (with_reducible refine (cA _ hB1.out).mono ?_); rintro e w2 ⟨rfl, hb2⟩; (have hB2 : Hid (Below w.heap.size w w2) := bthen hB1.out hb2); clear hb2 cA hB1)
      | (go_at_call 24; (with_reducible refine (cP _ hB2.out).mono ?_); rintro e w3 ⟨va, vc, rfl, hr3, hb3⟩; (have hP : Hid (PastH w w3 l i L va vc) := ⟨bthen hB2.out hb3, hr3⟩); clear hb3 hr3 cP hB2)
      | (go_at_call 15; (with_reducible refine (cK _ hP.out.b).mono ?_); rintro e w4 ⟨rfl, hb4⟩; (have hP : Hid (PastH w w4 l i L va vc) := hP.out.later hb4); clear hb4 cK)
      | (go_at_call 25; (with_reducible refine (d1 _).mono ?_); rintro e w5 ⟨rfl, rfl⟩; clear d1)
      | (go_at_call 25; (with_reducible refine (d2 _).mono ?_); rintro e w5 ⟨rfl, rfl⟩; clear d2)
      | (go_at_call 16; (with_reducible refine (cS _).mono ?_); rintro e w6 ⟨rfl, hb6⟩; (have hP : Hid (PastH w w6 l i L va vc) := hP.out.later hb6); clear hb6)
      | (go_at_call 26; (with_reducible refine (cM _ hP.out.b).mono ?_); rintro e w7 ⟨A, rb, rfl, hm7⟩; (have hP : Hid (PastH w w7 l i L va vc) := hP.out.later hm7.b); (have hm : Hid (Mat w7 w6.heap.size A l.length l.length rb B) := hm7.m); clear hm7 cM)
      | (go_at_call 27; (with_reducible refine (cR _ _ _ _ hm).mono ?_); rintro e w8 ⟨ua, uc, rfl, hr8, hb8⟩; (have hP : Hid (PastH w w8 l i L va vc) := hP.out.later hb8); (have hr8H : Hid (Rows w8 1 ua uc (L.map chCells)) := hr8); (have hb8H : Hid (Below w7.heap.size w7 w8) := hb8); clear hr8 hb8 cR)
      | (go_at_call 19; (with_reducible refine (cI _ _ _ _ _ hP.out.p hr8H.out).mono ?_); rintro e w9 ⟨rfl, hb9⟩; (have hP : Hid (PastH w w9 l i L va vc) := hP.out.later hb9); (have hm9 : Hid (Mat w9 w6.heap.size A l.length l.length rb B) := (hm.out.later hb8H.out).later hb9); (have v1 := hm9.out.row hi hi); (have v2 := hm9.out.row hj hj); (have v3 := (hm9.out.cell hi hj).1); (have v4 := (hm9.out.cell hj hi).1); rw [hPH.out] at v3; rw [hQH.out] at v4; (have y1 := ix_row A l.length i hi); (have y2 := ix_row A l.length i hi); (have y3 := ix_bool (rb i) l.length i hi); (have y4 := ix_bool (rb i) l.length i hi); clear hb9 cI))
    go_ret
    exact ⟨rfl, hP.out.b⟩
  · have hijd : ((i : Int) != (j : Int)) = true := by rw [bne_iff_ne]; omega
    have hijd2 : (i == j) = false := by simpa using hij
    rw [hijd2] at hR0
    clear hijd2 hii
    cases P with
    | true =>
      have e3 : R = false := by rw [hR0]; simp
      subst e3
      clear hR0
      go_enter Try.func4, Try.ntmps4
      go_wp2_with (first
        | (go_at_call 22; (with_reducible refine cBf.mono ?_); rintro e w1 ⟨rfl, hb1⟩; (have hB1 : Hid (Below w.heap.size w w1) := hb1); clear hb1 cBf)
        | (go_at_call 23; (with_reducible refine (cA _ hB1.out).mono ?_); rintro e w2 ⟨rfl, hb2⟩; (have hB2 : Hid (Below w.heap.size w w2) := bthen hB1.out hb2); clear hb2 cA hB1)
        | (go_at_call 24; (with_reducible refine (cP _ hB2.out).mono ?_); rintro e w3 ⟨va, vc, rfl, hr3, hb3⟩; (have hP : Hid (PastH w w3 l i L va vc) := ⟨bthen hB2.out hb3, hr3⟩); clear hb3 hr3 cP hB2)
        | (go_at_call 15; (with_reducible refine (cK _ hP.out.b).mono ?_); rintro e w4 ⟨rfl, hb4⟩; (have hP : Hid (PastH w w4 l i L va vc) := hP.out.later hb4); clear hb4 cK)
        | (go_at_call 25; (with_reducible refine (d1 _).mono ?_); rintro e w5 ⟨rfl, rfl⟩; clear d1)
        | (go_at_call 25; (with_reducible refine (d2 _).mono ?_); rintro e w5 ⟨rfl, rfl⟩; clear d2)
        | (go_at_call 16; (with_reducible refine (cS _).mono ?_); rintro e w6 ⟨rfl, hb6⟩; (have hP : Hid (PastH w w6 l i L va vc) := hP.out.later hb6); clear hb6)
        | (go_at_call 26; (with_reducible refine (cM _ hP.out.b).mono ?_); rintro e w7 ⟨A, rb, rfl, hm7⟩; (have hP : Hid (PastH w w7 l i L va vc) := hP.out.later hm7.b); (have hm : Hid (Mat w7 w6.heap.size A l.length l.length rb B) := hm7.m); clear hm7 cM)
        | (go_at_call 27; (with_reducible refine (cR _ _ _ _ hm).mono ?_); rintro e w8 ⟨ua, uc, rfl, hr8, hb8⟩; (have hP : Hid (PastH w w8 l i L va vc) := hP.out.later hb8); (have hr8H : Hid (Rows w8 1 ua uc (L.map chCells)) := hr8); (have hb8H : Hid (Below w7.heap.size w7 w8) := hb8); clear hr8 hb8 cR)
        | (go_at_call 19; (with_reducible refine (cI _ _ _ _ _ hP.out.p hr8H.out).mono ?_); rintro e w9 ⟨rfl, hb9⟩; (have hP : Hid (PastH w w9 l i L va vc) := hP.out.later hb9); (have hm9 : Hid (Mat w9 w6.heap.size A l.length l.length rb B) := (hm.out.later hb8H.out).later hb9); (have v1 := hm9.out.row hi hi); (have v2 := hm9.out.row hj hj); (have v3 := (hm9.out.cell hi hj).1); (have v4 := (hm9.out.cell hj hi).1); rw [hPH.out] at v3; rw [hQH.out] at v4; (have y1 := ix_row A l.length i hi); (have y2 := ix_row A l.length j hj); (have y3 := ix_bool (rb i) l.length j hj); (have y4 := ix_bool (rb j) l.length i hi); clear hb9 cI))
      go_ret
      exact ⟨rfl, hP.out.b⟩
    | false =>
      cases Q with
      | true =>
        have e3 : R = false := by rw [hR0]; simp
        subst e3
        clear hR0
        go_enter Try.func4, Try.ntmps4
        go_wp2_with (first
          | (go_at_call 22; (with_reducible refine cBf.mono ?_); rintro e w1 ⟨rfl, hb1⟩; (have hB1 : Hid (Below w.heap.size w w1) := hb1); clear hb1 cBf)
          | (go_at_call 23; (with_reducible refine (cA _ hB1.out).mono ?_); rintro e w2 ⟨rfl, hb2⟩; (have hB2 : Hid (Below w.heap.size w w2) := bthen hB1.out hb2); clear hb2 cA hB1)
          | (go_at_call 24; (with_reducible refine (cP _ hB2.out).mono ?_); rintro e w3 ⟨va, vc, rfl, hr3, hb3⟩; (have hP : Hid (PastH w w3 l i L va vc) := ⟨bthen hB2.out hb3, hr3⟩); clear hb3 hr3 cP hB2)
          | (go_at_call 15; (with_reducible refine (cK _ hP.out.b).mono ?_); rintro e w4 ⟨rfl, hb4⟩; (have hP : Hid (PastH w w4 l i L va vc) := hP.out.later hb4); clear hb4 cK)
          | (go_at_call 25; (with_reducible refine (d1 _).mono ?_); rintro e w5 ⟨rfl, rfl⟩; clear d1)
          | (go_at_call 25; (with_reducible refine (d2 _).mono ?_); rintro e w5 ⟨rfl, rfl⟩; clear d2)
          | (go_at_call 16; (with_reducible refine (cS _).mono ?_); rintro e w6 ⟨rfl, hb6⟩; (have hP : Hid (PastH w w6 l i L va vc) := hP.out.later hb6); clear hb6)
          | (go_at_call 26; (with_reducible refine (cM _ hP.out.b).mono ?_); rintro e w7 ⟨A, rb, rfl, hm7⟩; (have hP : Hid (PastH w w7 l i L va vc) := hP.out.later hm7.b); (have hm : Hid (Mat w7 w6.heap.size A l.length l.length rb B) := hm7.m); clear hm7 cM)
          | (go_at_call 27; (with_reducible refine (cR _ _ _ _ hm).mono ?_); rintro e w8 ⟨ua, uc, rfl, hr8, hb8⟩; (have hP : Hid (PastH w w8 l i L va vc) := hP.out.later hb8); (have hr8H : Hid (Rows w8 1 ua uc (L.map chCells)) := hr8); (have hb8H : Hid (Below w7.heap.size w7 w8) := hb8); clear hr8 hb8 cR)
          | (go_at_call 19; (with_reducible refine (cI _ _ _ _ _ hP.out.p hr8H.out).mono ?_); rintro e w9 ⟨rfl, hb9⟩; (have hP : Hid (PastH w w9 l i L va vc) := hP.out.later hb9); (have hm9 : Hid (Mat w9 w6.heap.size A l.length l.length rb B) := (hm.out.later hb8H.out).later hb9); (have v1 := hm9.out.row hi hi); (have v2 := hm9.out.row hj hj); (have v3 := (hm9.out.cell hi hj).1); (have v4 := (hm9.out.cell hj hi).1); rw [hPH.out] at v3; rw [hQH.out] at v4; (have y1 := ix_row A l.length i hi); (have y2 := ix_row A l.length j hj); (have y3 := ix_bool (rb i) l.length j hj); (have y4 := ix_bool (rb j) l.length i hi); clear hb9 cI))
        go_ret
        exact ⟨rfl, hP.out.b⟩
      | false =>
        have e3 : R = true := by rw [hR0]; simp
        subst e3
        clear hR0
        go_enter Try.func4, Try.ntmps4
        go_wp2_with (first
          | (go_at_call 22; (with_reducible refine cBf.mono ?_); rintro e w1 ⟨rfl, hb1⟩; (have hB1 : Hid (Below w.heap.size w w1) := hb1); clear hb1 cBf)
          | (go_at_call 23; (with_reducible refine (cA _ hB1.out).mono ?_); rintro e w2 ⟨rfl, hb2⟩; (have hB2 : Hid (Below w.heap.size w w2) := bthen hB1.out hb2); clear hb2 cA hB1)
          | (go_at_call 24; (with_reducible refine (cP _ hB2.out).mono ?_); rintro e w3 ⟨va, vc, rfl, hr3, hb3⟩; (have hP : Hid (PastH w w3 l i L va vc) := ⟨bthen hB2.out hb3, hr3⟩); clear hb3 hr3 cP hB2)
          | (go_at_call 15; (with_reducible refine (cK _ hP.out.b).mono ?_); rintro e w4 ⟨rfl, hb4⟩; (have hP : Hid (PastH w w4 l i L va vc) := hP.out.later hb4); clear hb4 cK)
          | (go_at_call 25; (with_reducible refine (d1 _).mono ?_); rintro e w5 ⟨rfl, rfl⟩; clear d1)
          | (go_at_call 25; (with_reducible refine (d2 _).mono ?_); rintro e w5 ⟨rfl, rfl⟩; clear d2)
          | (go_at_call 16; (with_reducible refine (cS _).mono ?_); rintro e w6 ⟨rfl, hb6⟩; (have hP : Hid (PastH w w6 l i L va vc) := hP.out.later hb6); clear hb6)
          | (go_at_call 26; (with_reducible refine (cM _ hP.out.b).mono ?_); rintro e w7 ⟨A, rb, rfl, hm7⟩; (have hP : Hid (PastH w w7 l i L va vc) := hP.out.later hm7.b); (have hm : Hid (Mat w7 w6.heap.size A l.length l.length rb B) := hm7.m); clear hm7 cM)
          | (go_at_call 27; (with_reducible refine (cR _ _ _ _ hm).mono ?_); rintro e w8 ⟨ua, uc, rfl, hr8, hb8⟩; (have hP : Hid (PastH w w8 l i L va vc) := hP.out.later hb8); (have hr8H : Hid (Rows w8 1 ua uc (L.map chCells)) := hr8); (have hb8H : Hid (Below w7.heap.size w7 w8) := hb8); clear hr8 hb8 cR)
          | (go_at_call 19; (with_reducible refine (cI _ _ _ _ _ hP.out.p hr8H.out).mono ?_); rintro e w9 ⟨rfl, hb9⟩; (have hP : Hid (PastH w w9 l i L va vc) := hP.out.later hb9); (have hm9 : Hid (Mat w9 w6.heap.size A l.length l.length rb B) := (hm.out.later hb8H.out).later hb9); (have v1 := hm9.out.row hi hi); (have v2 := hm9.out.row hj hj); (have v3 := (hm9.out.cell hi hj).1); (have v4 := (hm9.out.cell hj hi).1); rw [hPH.out] at v3; rw [hQH.out] at v4; (have y1 := ix_row A l.length i hi); (have y2 := ix_row A l.length j hj); (have y3 := ix_bool (rb i) l.length j hj); (have y4 := ix_bool (rb j) l.length i hi); clear hb9 cI))
        go_ret
        exact ⟨rfl, hP.out.b⟩
theorem asks_any (l : List Ev) (la : Option Addr) (lc : Nat) (i j : Int) (w : World) (hl : EvsIn w la lc l) (_ : (Lit.int .i64 i).wf = true) (_ : (Lit.int .i64 j).wf = true) : Calls Try.prog 4 #[.slice la l.length lc, .int .i64 i, .int .i64 j] w fun e w' => e = .returned (.bool true) ∧ Below w.heap.size w w' := by
  by_cases h : checkP l 0 ∧ (0 ≤ i ∧ i < l.length)
  · obtain ⟨hc, i0, i1⟩ := h
    obtain ⟨a, rfl⟩ := Int.eq_ofNat_of_zero_le i0
    obtain ⟨hlen, hrt⟩ : l.length ≤ 256 ∧ ∀ x ∈ l, rightP x := by rcases hc with ⟨_, q⟩ | ⟨_, _, q⟩ | ⟨a, b, _⟩ <;> first | exact ⟨a, b⟩ | omega
    by_cases hj : 0 ≤ j ∧ j < l.length
    · obtain ⟨b, rfl⟩ := Int.eq_ofNat_of_zero_le hj.1
      exact asks_in l la lc a b w hl.1 hlen hrt (by omega) (by omega)
    · exact asks_half l la lc a j w hl.1 hlen hrt (by omega) hj
  · exact asks_out l la lc i j w hl.1 h
end Go.Proofs.Ytkhhkgfaakgdfaa.pg

