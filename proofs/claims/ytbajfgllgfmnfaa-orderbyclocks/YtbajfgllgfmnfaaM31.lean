/- OrderByClocks, of two places that are there. -/
import Derived.Test.YtbajfgllgfmnfaaM30
namespace Go.Proofs.Ytbajfgllgfmnfaa.pg
open Go.ChangeShapes Go.WideShapes Go.ChangeAt Go.RowKit Go.Shelf
set_option linter.unusedVariables false
set_option linter.unusedSimpArgs false
set_option maxRecDepth 100000
attribute [local go_sem ↓] Go.wp_at_zero Go.wp_at_succ
set_option maxHeartbeats 2000000 in
theorem by_in (l : List Ev) (la : Option Addr) (lc : Nat) (i j : Nat) (w : World) (hl : Rows w 26 la lc (l.map Ev.cells)) (hlen : l.length ≤ 256) (hrt : ∀ x ∈ l, rightP x) (hi : i < l.length) (hj : j < l.length) : Calls Try.prog 6 #[.slice la l.length lc, .int .i64 (i : Int), .int .i64 (j : Int)] w fun e w' => e = .returned (.bool true) ∧ Below w.heap.size w w' := by
  have hlI := rows_len hl
  have hlH : Hid (Rows w 26 la lc (l.map Ev.cells)) := hl
  have hrtH : Hid (∀ x ∈ l, rightP x) := hrt
  have cS : ∀ wx, Calls Try.prog 14 #[] wx fun e w' => e = .returned (.bool true) ∧ Below wx.heap.size wx w' := fun wx => speaks12_any wx
  have cK : ∀ wx, Below w.heap.size w wx → Calls Try.prog 13 #[.slice la l.length lc] wx fun e w' => e = .returned (.int .i64 0) ∧ Below wx.heap.size wx w' := fun wx hb => rcheck_any l la lc wx (hlH.out.later hb) 0 (.inr (.inr ⟨hlen, hrt, rfl⟩))
  have cC := clocks_ok l la lc w hl hlen hrt
  have d1 : ∀ wx, Calls Try.prog 23 #[.slice la l.length lc, .int .i64 (i : Int)] wx fun e w' => e = .returned (.bool true) ∧ w' = wx := fun wx => by have := place_any l la lc (i : Int) hlI wx; rwa [decide_eq_true ⟨by omega, by omega⟩] at this
  have d2 : ∀ wx, Calls Try.prog 23 #[.slice la l.length lc, .int .i64 (j : Int)] wx fun e w' => e = .returned (.bool true) ∧ w' = wx := fun wx => by have := place_any l la lc (j : Int) hlI wx; rwa [decide_eq_true ⟨by omega, by omega⟩] at this
  obtain ⟨R, hR⟩ : ∃ R, Hid (R = befK (rel (evf l) l.length).1 l i j) := ⟨_, rfl⟩
  have cB : ∀ wx, Below w.heap.size w wx → Calls Try.prog 20 #[.slice la l.length lc, .int .i64 (i : Int), .int .i64 (j : Int)] wx fun e w' => e = .returned (.tuple #[.bool R, .int .i64 0]) ∧ Below wx.heap.size wx w' := fun wx hb => before_ok l la lc i j wx (hlH.out.later hb) hlen hrt hi hj R hR
  have hun : Hid (ulTo ((rel (evf l) l.length).1.getD i zeroK) ((rel (evf l) l.length).1.getD j zeroK) (decide (i < j)) 6 = R) := by show _ = _; rw [hR.out]; exact under_eq hrt hi hj
  have eR : Hid (R = (decide (i < j) && decide (((rel (evf l) l.length).1.getD i zeroK).of (evf l i).go.toNat ≤ ((rel (evf l) l.length).1.getD j zeroK).of (evf l i).go.toNat))) := hR.out
  clear hl hrt
  go_enter Try.func6, Try.ntmps6
  go_wp2_with (first
    | (go_at_call 9; (with_reducible refine cC.mono ?_); rintro e w1 ⟨ca, cc, rfl, oc', hb1⟩; (have hB : Hid (Below w.heap.size w w1) := hb1); (have oc : Hid (OwnL w1 w.heap.size 40 6 ca cc ((rel (evf l) l.length).1.map Ck.cells)) := oc'); clear hb1 cC oc')
    | (go_at_call 13; (with_reducible refine (cK _ hB.out).mono ?_); rintro e w2 ⟨rfl, hb2⟩; (have hB : Hid (Below w.heap.size w w2) := bthen hB.out hb2); (have oc : Hid (OwnL w2 w.heap.size 40 6 ca cc ((rel (evf l) l.length).1.map Ck.cells)) := own_keep oc.out fun b hb' => hb2.block b (blk_lt oc.out b hb').2); clear hb2)
    | (go_at_call 23; (with_reducible refine (d1 _).mono ?_); rintro e w3 ⟨rfl, rfl⟩; clear d1)
    | (go_at_call 23; (with_reducible refine (d2 _).mono ?_); rintro e w3 ⟨rfl, rfl⟩; clear d2)
    | (go_at_call 20; (with_reducible refine (cB _ hB.out).mono ?_); rintro e w4 ⟨rfl, hb4⟩; (have hB : Hid (Below w.heap.size w w4) := bthen hB.out hb4); (have oc : Hid (OwnL w4 w.heap.size 40 6 ca cc ((rel (evf l) l.length).1.map Ck.cells)) := own_keep oc.out fun b hb' => hb4.block b (blk_lt oc.out b hb').2); clear hb4 cB))
  have hcl := rel_len (evf l) l.length
  have hCi : (rel (evf l) l.length).1[i]? = some ((rel (evf l) l.length).1.getD i zeroK) := by rw [List.getD_eq_getElem?_getD, List.getElem?_eq_getElem (by omega)]; rfl
  have hCj : (rel (evf l) l.length).1[j]? = some ((rel (evf l) l.length).1.getD j zeroK) := by rw [List.getD_eq_getElem?_getD, List.getElem?_eq_getElem (by omega)]; rfl
  obtain ⟨g0, g6⟩ := (hrtH.out _ (List.mem_of_getElem? (evf_at hi))).1
  obtain ⟨eb, eo, e1, e2, e3⟩ := ev_row (hlH.out.later hB.out) i _ (evf_at hi)
  obtain ⟨xb, xo, x1, x2, x3⟩ := ck_row oc.out i _ hCi
  obtain ⟨yb, yo, y1, y2, y3⟩ := ck_row oc.out j _ hCj
  rw [hcl] at x1 y1
  have xlt := (blk_lt oc.out xb x2).2
  have ylt := (blk_lt oc.out yb y2).2
  have hgN : (((evf l i).go.toNat : Nat) : Int) = (evf l i).go := Int.toNat_of_nonneg g0
  have hg : (evf l i).go.toNat < 6 := by omega
  have m1 := ck_mid xb xo _ hg
  have m2 := ck_mid yb yo _ hg
  rw [hgN] at m1 m2
  have k1 : Hid (w4.rangeAt xb xo ((rel (evf l) l.length).1.getD i zeroK).cells ∧ w4.rangeAt yb yo ((rel (evf l) l.length).1.getD j zeroK).cells ∧ xb < w4.heap.size ∧ yb < w4.heap.size) := ⟨x3, y3, xlt, ylt⟩
  have k2 : Hid (w4.cell? ⟨eb, eo, none⟩ = some (.int .i64 (evf l i).go) ∧ eb < w4.heap.size ∧ (evf l i).go.toNat < 6) := ⟨e3 0 _ rfl, e2, hg⟩
  have k3 : Hid ((∀ wx, (Instr.indexAt 22 (.slice la l.length lc) (.int .i64 (i : Int))).run Try.prog wx = .ok (.pointer (some ⟨eb, eo, none⟩)) wx) ∧ (∀ wx, (Instr.indexAt 40 (.pointer (some ⟨xb, xo, none⟩)) (.int .i64 (evf l i).go)).run Try.prog wx = .ok (.pointer (some ⟨xb, xo + (evf l i).go.toNat, none⟩)) wx) ∧ (∀ wx, (Instr.indexAt 40 (.pointer (some ⟨yb, yo, none⟩)) (.int .i64 (evf l i).go)).run Try.prog wx = .ok (.pointer (some ⟨yb, yo + (evf l i).go.toNat, none⟩)) wx)) := ⟨e1, m1, m2⟩
  clear hcl hCi hCj g0 g6 e1 e2 e3 x2 x3 y2 y3 xlt ylt hgN hg m1 m2 hR
  generalize (rel (evf l) l.length).1.getD i zeroK = x at *
  generalize (rel (evf l) l.length).1.getD j zeroK = y at *
  generalize (evf l i).go.toNat = gg at *
  generalize (evf l i).go = gi at *
  have hul0 : ulTo x y (decide (i < j)) 0 = decide (i < j) := by simp [ulTo]
  go_loopw [11, 12] (fun u v wr => ∃ k : Nat, k ≤ 6 ∧ v = .int .i64 k ∧ u = .bool (ulTo x y (decide (i < j)) k) ∧ Hid (Below w4.heap.size w4 wr)) (fun _ v _ => 6 - (intOf v).toNat)
  case atStart => exact ⟨0, by omega, rfl, by rw [hul0], Below.refl _ _⟩
  case round =>
    obtain ⟨k, hk, rfl, rfl, hb5⟩ := hrel
    by_cases hlt : k < 6
    · have hkI : (k : Int) < 6 := by omega
      have n1 := ck_mid xb xo k hlt
      have n2 := ck_mid yb yo k hlt
      have v1 : wr.cell? ⟨xb, xo + k, none⟩ = some (.int .i64 (x.of k)) := range_block k1.out.1 (hb5.out.block xb k1.out.2.2.1) k _ (ck_of hlt)
      have v2 : wr.cell? ⟨yb, yo + k, none⟩ = some (.int .i64 (y.of k)) := range_block k1.out.2.1 (hb5.out.block yb k1.out.2.2.2) k _ (ck_of hlt)
      have hmore : Hid (ulTo x y (decide (i < j)) (k + 1) = (ulTo x y (decide (i < j)) k && decide (x.of k ≤ y.of k))) := ulTo_more x y _ k
      obtain ⟨U, hU⟩ : ∃ U, ulTo x y (decide (i < j)) k = U := ⟨_, rfl⟩
      obtain ⟨P, hP⟩ : ∃ P, x.of k = P := ⟨_, rfl⟩
      obtain ⟨Q, hQ⟩ : ∃ Q, y.of k = Q := ⟨_, rfl⟩
      have hN : Hid (ulTo x y (decide (i < j)) (k + 1) = (U && decide (P ≤ Q))) := by show _ = _; rw [hmore.out, hU, hP, hQ]
      rw [hU]
      rw [hP] at v1
      rw [hQ] at v2
      clear hU hP hQ hmore hul0
      cases U with
      | true =>
        by_cases hPQ : P ≤ Q
        · skip
          go_wp2_with fail
          go_quiet (fail)
          go_wp2
          go_roundw
          case rel => exact ⟨k + 1, by omega, by go_num, by rw [hN.out]; simp [hPQ], below_drewN hb5.out _⟩
          case measure => simp [intOf]; omega
        · have hd : decide (P ≤ Q) = false := by simpa using hPQ
          clear hPQ
          go_wp2_with fail
          go_quiet (fail)
          go_wp2
          go_roundw
          case rel => exact ⟨k + 1, by omega, by go_num, by rw [hN.out]; simp [hd], below_drewN hb5.out _⟩
          case measure => simp [intOf]; omega
      | false =>
        go_wp2_with fail
        go_quiet (fail)
        go_wp2
        go_roundw
        case rel => exact ⟨k + 1, by omega, by go_num, by rw [hN.out]; simp, below_drewN hb5.out _⟩
        case measure => simp [intOf]; omega
    · have hk6 : k = 6 := by omega
      subst hk6
      have hB5 : Hid (Below w.heap.size w wr) := bthen hB.out hb5.out
      rw [hun.out]
      obtain ⟨P, hP⟩ : ∃ P, x.of gg = P := ⟨_, rfl⟩
      obtain ⟨Q, hQ⟩ : ∃ Q, y.of gg = Q := ⟨_, rfl⟩
      have z1 := k3.out.1
      have z2 := k3.out.2.1
      have z3 := k3.out.2.2
      have z4 : ∀ s : Cls (Bey wr), s.w.cell? ⟨eb, eo, none⟩ = some (.int .i64 gi) := fun s => ((bthen hb5.out s.h).cell (p := ⟨eb, eo, none⟩) k2.out.2.1).trans k2.out.1
      have z5 : ∀ s : Cls (Bey wr), s.w.cell? ⟨xb, xo + gg, none⟩ = some (.int .i64 P) := fun s => by rw [← hP]; exact range_block k1.out.1 ((bthen hb5.out s.h).block xb k1.out.2.2.1) gg _ (ck_of k2.out.2.2)
      have z6 : ∀ s : Cls (Bey wr), s.w.cell? ⟨yb, yo + gg, none⟩ = some (.int .i64 Q) := fun s => by rw [← hQ]; exact range_block k1.out.2.1 ((bthen hb5.out s.h).block yb k1.out.2.2.2) gg _ (ck_of k2.out.2.2)
      have eR2 : Hid (R = (decide (i < j) && decide (P ≤ Q))) := by show _ = _; rw [eR.out, hP, hQ]
      have hne := bey_some wr
      clear hP hQ eR hun hul0
      by_cases hij : i < j
      · have hijI : (i : Int) < j := by omega
        by_cases hPQ : P ≤ Q
        · have hR3 : R = true := by rw [eR2.out]; simp [hij, hPQ]
          subst hR3
          clear eR2
          go_wp2_with fail
          refine wp_region_cls (Bey wr) (by kernel_rfl) (by kernel_rfl) (bey_drew wr) ?_
          repeat (go_big_quiet_step ((go_at_call 14; exact calls_bey (cS _))))
          refine wpQuiet_nil ?_
          intro _ hw'
          obtain ⟨sq, hw''⟩ := hw'
          subst hw''
          clear z1 z2 z3 z4 z5 z6 hne
          go_wp2
          go_ret
          exact ⟨rfl, bthen hB5.out sq.h⟩
        · have hR3 : R = false := by rw [eR2.out]; simp [hPQ]
          have hd : decide (P ≤ Q) = false := by simpa using hPQ
          subst hR3
          clear eR2 hPQ
          go_wp2_with fail
          refine wp_region_cls (Bey wr) (by kernel_rfl) (by kernel_rfl) (bey_drew wr) ?_
          repeat (go_big_quiet_step ((go_at_call 14; exact calls_bey (cS _))))
          refine wpQuiet_nil ?_
          intro _ hw'
          obtain ⟨sq, hw''⟩ := hw'
          subst hw''
          clear z1 z2 z3 z4 z5 z6 hne
          go_wp2
          go_ret
          exact ⟨rfl, bthen hB5.out sq.h⟩
      · have hR3 : R = false := by rw [eR2.out]; simp [hij]
        have hd : decide ((i : Int) < j) = false := by simp; omega
        have hd2 : decide (i < j) = false := by simpa using hij
        subst hR3
        clear eR2 hij
        go_wp2_with fail
        refine wp_region_cls (Bey wr) (by kernel_rfl) (by kernel_rfl) (bey_drew wr) ?_
        repeat (go_big_quiet_step ((go_at_call 14; exact calls_bey (cS _))))
        refine wpQuiet_nil ?_
        intro _ hw'
        obtain ⟨sq, hw''⟩ := hw'
        subst hw''
        clear z1 z2 z3 z4 z5 z6 hne
        go_wp2
        go_ret
        exact ⟨rfl, bthen hB5.out sq.h⟩
end Go.Proofs.Ytbajfgllgfmnfaa.pg
/- OrderByClocks, whatever is asked. -/
namespace Go.Proofs.Ytbajfgllgfmnfaa.pg
open Go.ChangeShapes Go.WideShapes Go.ChangeAt Go.RowKit Go.Shelf
set_option linter.unusedVariables false
theorem byclocks_any (l : List Ev) (la : Option Addr) (lc : Nat) (i j : Int) (w : World) (hl : EvsIn w la lc l) (_ : (Lit.int .i64 i).wf = true) (_ : (Lit.int .i64 j).wf = true) : Calls Try.prog 6 #[.slice la l.length lc, .int .i64 i, .int .i64 j] w fun e w' => e = .returned (.bool true) ∧ Below w.heap.size w w' := by
  by_cases h : checkP l 0 ∧ (0 ≤ i ∧ i < l.length) ∧ (0 ≤ j ∧ j < l.length)
  · obtain ⟨hc, ⟨i0, i1⟩, j0, j1⟩ := h
    obtain ⟨a, rfl⟩ := Int.eq_ofNat_of_zero_le i0
    obtain ⟨b, rfl⟩ := Int.eq_ofNat_of_zero_le j0
    obtain ⟨hlen, hrt⟩ : l.length ≤ 256 ∧ ∀ x ∈ l, rightP x := by rcases hc with ⟨_, q⟩ | ⟨_, _, q⟩ | ⟨a, b, _⟩ <;> first | exact ⟨a, b⟩ | omega
    exact by_in l la lc a b w hl.1 hlen hrt (by omega) (by omega)
  · exact by_out l la lc i j w hl.1 h
end Go.Proofs.Ytbajfgllgfmnfaa.pg
