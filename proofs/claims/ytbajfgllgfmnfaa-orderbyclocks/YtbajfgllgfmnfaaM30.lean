/- The events that touch an object, by package depend; DependUses, walked. -/
import Derived.Test.YtbajfgllgfmnfaaM22
import Derived.Test.YtbajfgllgfmnfaaM29
namespace Go.Proofs.Ytbajfgllgfmnfaa.pg
open Go.ChangeShapes Go.WideShapes Go.ChangeAt Go.RowKit
set_option linter.unusedVariables false
set_option linter.unusedSimpArgs false
set_option maxRecDepth 100000
attribute [local go_sem ↓] Go.wp_at_zero Go.wp_at_succ
/-- Events that came in. -/
def EvsIn (w : World) (b : Option Addr) (c : Nat) (l : List Ev) : Prop := Rows w 26 b c (l.map Ev.cells) ∧ ∀ x ∈ l, x.wf
section
variable {H : Type} {enc : TypeId × Value → H} {w : World} {base : Nat} {spare : Nat → Bool} {held : Bool}
theorem evs_sz {n : Nat} {a : Option Addr} {len cap : Nat} {y : DataW H × List MemPlace} (h : DataW.trod enc Try.prog w base spare held n 22 [.slice a len cap] = some y) (hs : Sz Try.prog 22 y.1) : ∃ l : List Ev, l.length = len ∧ EvsIn w a cap l := by
  obtain ⟨l, rfl, h1, h2, h3⟩ := rows_sz (k := 26) ev0 Ev.cells Ev.wf Try.underlying22 (by kernel_rfl) (by omega) (fun n cs y hl h _ => ev_in hl h) h hs
  exact ⟨l, rfl, h1, h2⟩
end
set_option maxHeartbeats 1000000 in
theorem sameInts_u (l : List Int) (a b : Option Addr) (ca cb : Nat) (w : World) (ha : Rows w 1 a ca (l.map chCells)) (hb : Rows w 1 b cb (l.map chCells)) :
    Calls Try.prog 17 #[.slice a l.length ca, .slice b l.length cb] w fun e w' => e = .returned (.bool true) ∧ Below w.heap.size w w' := by
  have hlI : (l.length : Int) ≤ 9223372036854775807 := rows_len ha
  go_enter Try.func17, Try.ntmps17
  go_wp2_with fail
  go_loopw [13] (fun u wr => ∃ k : Nat, k ≤ l.length ∧ u = .int .i64 k ∧ Below w.heap.size w wr) (fun u _ => l.length - (intOf u).toNat)
  case atStart => exact ⟨0, Nat.zero_le _, rfl, Below.refl _ _⟩
  case round =>
    obtain ⟨k, hk, rfl, hbe⟩ := hrel
    by_cases hlt : k < l.length
    · obtain ⟨y, hy, hym⟩ := get_lt l k hlt
      obtain ⟨b1, o1, hix1, hbl1, c1⟩ := ch_ix (ha.later hbe) k y hy
      obtain ⟨b2, o2, hix2, hbl2, c2⟩ := ch_ix (hb.later hbe) k y hy
      have hkI : (k : Int) < l.length := by omega
      go_wp2_with fail
      go_quiet (fail)
      go_wp2
      go_roundw
      case rel => exact ⟨k + 1, by omega, by go_num, below_drewN hbe _⟩
      case measure => simp [intOf]; omega
    · have hk2 : k = l.length := by omega
      subst hk2
      go_wp2
      go_ret
      exact ⟨rfl, hbe⟩
end Go.Proofs.Ytbajfgllgfmnfaa.pg
/- OrderByClocks. -/
namespace Go.Proofs.Ytbajfgllgfmnfaa.pg
open Go.ChangeShapes Go.WideShapes Go.ChangeAt Go.RowKit Go.Shelf
set_option linter.unusedVariables false
set_option linter.unusedSimpArgs false
set_option maxRecDepth 100000
attribute [local go_sem ↓] Go.wp_at_zero Go.wp_at_succ
theorem place_any (l : List Ev) (la : Option Addr) (lc : Nat) (i : Int) (hI : (l.length : Int) ≤ 9223372036854775807) (w : World) : Calls Try.prog 23 #[.slice la l.length lc, .int .i64 i] w fun e w' => e = .returned (.bool (decide (0 ≤ i ∧ i < l.length))) ∧ w' = w := by
  by_cases h0 : 0 ≤ i
  · by_cases h1 : i < l.length
    · have hh : Hid (decide (0 ≤ i ∧ i < l.length) = true) := by show _ = _; simp [h0, h1]
      rw [hh.out]
      go_enter Try.func23, Try.ntmps23
      go_wp2
      go_ret
      exact ⟨rfl, rfl⟩
    · have hh : Hid (decide (0 ≤ i ∧ i < l.length) = false) := by show _ = _; simp [h0, h1]
      have hd : decide (i < (l.length : Int)) = false := by simpa using h1
      rw [hh.out]
      clear h1
      go_enter Try.func23, Try.ntmps23
      go_wp2
      go_ret
      exact ⟨rfl, rfl⟩
  · have hh : Hid (decide (0 ≤ i ∧ i < l.length) = false) := by show _ = _; simp [h0]
    have hd : decide (0 ≤ i) = false := by simpa using h0
    rw [hh.out]
    clear h0
    go_enter Try.func23, Try.ntmps23
    go_wp2
    go_ret
    exact ⟨rfl, rfl⟩
/-- As far as a loop over a clock's numbers has come. -/
def ulTo (x y : Ck) (b : Bool) (k : Nat) : Bool := b && (List.range k).all fun q => decide (x.of q ≤ y.of q)
theorem ulTo_more (x y : Ck) (b : Bool) (k : Nat) : ulTo x y b (k + 1) = (ulTo x y b k && decide (x.of k ≤ y.of k)) := by
  unfold ulTo
  rw [List.range_succ, List.all_append]
  simp [Bool.and_assoc]
section
variable {l : List Ev} (hrt : ∀ x ∈ l, rightP x)
include hrt
theorem under_eq {i j : Nat} (hi : i < l.length) (hj : j < l.length) : ulTo ((rel (evf l) l.length).1.getD i zeroK) ((rel (evf l) l.length).1.getD j zeroK) (decide (i < j)) 6 = befK (rel (evf l) l.length).1 l i j := by
  obtain ⟨B, hB⟩ := tells_some (dpf l)
  have hl := rel_len (evf l) l.length
  have ei : (rel (evf l) l.length).1[i]? = some ((rel (evf l) l.length).1.getD i zeroK) := by rw [List.getD_eq_getElem?_getD, List.getElem?_eq_getElem (by omega)]; rfl
  have ej : (rel (evf l) l.length).1[j]? = some ((rel (evf l) l.length).1.getD j zeroK) := by rw [List.getD_eq_getElem?_getD, List.getElem?_eq_getElem (by omega)]; rfl
  have xi := rel_is hrt hB l.length (Nat.le_refl _) i _ ei
  have xj := rel_is hrt hB l.length (Nat.le_refl _) j _ ej
  unfold befK
  generalize (rel (evf l) l.length).1.getD i zeroK = x at *
  generalize (rel (evf l) l.length).1.getD j zeroK = y at *
  have hg : gof l i < 6 := gof_lt hrt hi
  unfold ulTo
  by_cases hij : i < j
  · simp only [hij, decide_true, Bool.true_and]
    rw [Bool.eq_iff_iff, List.all_eq_true, decide_eq_true_eq]
    have h1 := before_iff hB (ord_ok hrt) hij hj
    have h2 := under_iff hB (ord_ok hrt) hij hj
    constructor
    · intro h
      have := h (gof l i) (List.mem_range.mpr hg)
      exact of_decide_eq_true this
    · intro h q hq
      rw [List.mem_range] at hq
      have hb : B i j = true := h1.mp (by
        have a := xi (gof l i) hg
        have b := xj (gof l i) hg
        unfold gof at a b ⊢
        omega)
      have := (h2.mpr hb) q
      rw [decide_eq_true_eq, xi q hq, xj q hq]
      omega
  · simp [hij]
end
set_option maxHeartbeats 2000000 in
theorem by_out (l : List Ev) (la : Option Addr) (lc : Nat) (i j : Int) (w : World) (hl : Rows w 26 la lc (l.map Ev.cells)) (h : ¬ (checkP l 0 ∧ (0 ≤ i ∧ i < l.length) ∧ (0 ≤ j ∧ j < l.length))) : Calls Try.prog 6 #[.slice la l.length lc, .int .i64 i, .int .i64 j] w fun e w' => e = .returned (.bool true) ∧ Below w.heap.size w w' := by
  have hlI := rows_len hl
  have hlH : Hid (Rows w 26 la lc (l.map Ev.cells)) := hl
  have cS : ∀ wx, Calls Try.prog 14 #[] wx _ := fun wx => speaks12_any wx
  obtain ⟨c, hc⟩ := check_ex l
  have cK : ∀ wx, Below w.heap.size w wx → Calls Try.prog 13 #[.slice la l.length lc] wx fun e w' => e = .returned (.int .i64 c) ∧ Below wx.heap.size wx w' := fun wx hb => rcheck_any l la lc wx (hlH.out.later hb) c hc
  by_cases h0 : c = 0
  · subst h0
    obtain ⟨hlen, hrt⟩ : l.length ≤ 256 ∧ ∀ x ∈ l, rightP x := by rcases hc with ⟨_, q⟩ | ⟨_, _, q⟩ | ⟨a, b, _⟩ <;> first | exact ⟨a, b⟩ | omega
    have cC := clocks_ok l la lc w hl hlen hrt
    have cP : ∀ (x : Int) wx, Calls Try.prog 23 #[.slice la l.length lc, .int .i64 x] wx _ := fun x wx => place_any l la lc x hlI wx
    by_cases hi : 0 ≤ i ∧ i < l.length
    · have hj : ¬ (0 ≤ j ∧ j < l.length) := fun q => h ⟨hc, hi, q⟩
      have d1 : ∀ wx, Calls Try.prog 23 #[.slice la l.length lc, .int .i64 i] wx fun e w' => e = .returned (.bool true) ∧ w' = wx := fun wx => by have := cP i wx; rwa [decide_eq_true hi] at this
      have d2 : ∀ wx, Calls Try.prog 23 #[.slice la l.length lc, .int .i64 j] wx fun e w' => e = .returned (.bool false) ∧ w' = wx := fun wx => by have := cP j wx; rwa [decide_eq_false hj] at this
      clear hl hc h hi hj cP hrt
      go_enter Try.func6, Try.ntmps6
      go_wp2_with (first
        | (go_at_call 9; (with_reducible refine cC.mono ?_); rintro e w1 ⟨ca, cc, rfl, _, hb1⟩; (have hB : Hid (Below w.heap.size w w1) := hb1); clear hb1 cC)
        | (go_at_call 13; (with_reducible refine (cK _ hB.out).mono ?_); rintro e w2 ⟨rfl, hb2⟩; (have hB : Hid (Below w.heap.size w w2) := bthen hB.out hb2); clear hb2)
        | (go_at_call 23; (with_reducible refine (d1 _).mono ?_); rintro e w3 ⟨rfl, rfl⟩)
        | (go_at_call 23; (with_reducible refine (d2 _).mono ?_); rintro e w3 ⟨rfl, rfl⟩)
        | (go_at_call 14; (with_reducible refine (cS _).mono ?_); rintro e w4 ⟨rfl, hb4⟩; (have hB4 : Hid (Below w.heap.size w w4) := bthen hB.out hb4)))
      go_ret
      exact ⟨rfl, hB4.out⟩
    · have d1 : ∀ wx, Calls Try.prog 23 #[.slice la l.length lc, .int .i64 i] wx fun e w' => e = .returned (.bool false) ∧ w' = wx := fun wx => by have := cP i wx; rwa [decide_eq_false hi] at this
      clear hl hc h hi cP hrt
      go_enter Try.func6, Try.ntmps6
      go_wp2_with (first
        | (go_at_call 9; (with_reducible refine cC.mono ?_); rintro e w1 ⟨ca, cc, rfl, _, hb1⟩; (have hB : Hid (Below w.heap.size w w1) := hb1); clear hb1 cC)
        | (go_at_call 13; (with_reducible refine (cK _ hB.out).mono ?_); rintro e w2 ⟨rfl, hb2⟩; (have hB : Hid (Below w.heap.size w w2) := bthen hB.out hb2); clear hb2)
        | (go_at_call 23; (with_reducible refine (d1 _).mono ?_); rintro e w3 ⟨rfl, rfl⟩)
        | (go_at_call 14; (with_reducible refine (cS _).mono ?_); rintro e w4 ⟨rfl, hb4⟩; (have hB4 : Hid (Below w.heap.size w w4) := bthen hB.out hb4)))
      go_ret
      exact ⟨rfl, hB4.out⟩
  · have h7 : c = 2 ∨ c = 7 := by rcases hc with ⟨_, q⟩ | ⟨_, _, q⟩ | ⟨_, _, q⟩ <;> omega
    have cC := clocks_bad l la lc w hl c hc h7
    clear hl hc h h0
    rcases h7 with rfl | rfl
    all_goals
      go_enter Try.func6, Try.ntmps6
      go_wp2_with (first
        | (go_at_call 9; (with_reducible refine cC.mono ?_); rintro e w1 ⟨rfl, hb1⟩; (have hB : Hid (Below w.heap.size w w1) := hb1); clear hb1 cC)
        | (go_at_call 13; (with_reducible refine (cK _ hB.out).mono ?_); rintro e w2 ⟨rfl, hb2⟩; (have hB : Hid (Below w.heap.size w w2) := bthen hB.out hb2); clear hb2)
        | (go_at_call 14; (with_reducible refine (cS _).mono ?_); rintro e w4 ⟨rfl, hb4⟩; (have hB4 : Hid (Below w.heap.size w w4) := bthen hB.out hb4)))
      go_ret
      exact ⟨rfl, hB4.out⟩
end Go.Proofs.Ytbajfgllgfmnfaa.pg
