/- The events that touch an object, by package depend; DependUses, walked. -/
import Derived.Test.YtkhhkgfaakgdfaaM22
import Derived.Test.YtkhhkgfaakgdfaaM37
namespace Go.Proofs.Ytkhhkgfaakgdfaa.pg
open Go.ChangeShapes Go.WideShapes Go.ChangeAt Go.RowKit
set_option linter.unusedVariables false
set_option linter.unusedSimpArgs false
set_option maxRecDepth 100000
attribute [local go_sem ↓] Go.wp_at_zero Go.wp_at_succ
/-- Events that came in. -/
def EvsIn (w : World) (b : Option Addr) (c : Nat) (l : List Ev) : Prop := Rows w 26 b c (l.map Ev.cells) ∧ ∀ x ∈ l, x.wf
section
variable {H : Type} {enc : TypeId × Value → H} {w : World} {base : Nat} {spare : Nat → Bool} {held : Bool}
theorem evs_sz {n : Nat} {a : Option Addr} {len cap : Nat} {y : DataW H × List MemPlace} (h : DataW.trod enc Try.prog w base spare held n 22 [.slice a len cap] = some y) (hs : Sz Try.prog 22 y.1) : ∃ l : List Ev, l.length = len ∧ EvsIn w a cap l := by
  obtain ⟨l, rfl, h1, h2, h3⟩ := rows_sz (k := 26) ev0 Ev.cells Ev.wf Try.underlying22 (by kernel_rfl) (by omega) (fun n cs y hl h _ => ev_in hl h) h hs
  exact ⟨l, rfl, h1, h2⟩
end
set_option maxHeartbeats 1000000 in
theorem sameInts_u (l : List Int) (a b : Option Addr) (ca cb : Nat) (w : World) (ha : Rows w 1 a ca (l.map chCells)) (hb : Rows w 1 b cb (l.map chCells)) :
    Calls Try.prog 19 #[.slice a l.length ca, .slice b l.length cb] w fun e w' => e = .returned (.bool true) ∧ Below w.heap.size w w' := by
  have hlI : (l.length : Int) ≤ 9223372036854775807 := rows_len ha
  go_enter Try.func19, Try.ntmps19
  go_wp2_with fail
  go_loopw [13] (fun u wr => ∃ k : Nat, k ≤ l.length ∧ u = .int .i64 k ∧ Below w.heap.size w wr) (fun u _ => l.length - (intOf u).toNat)
  case atStart => exact ⟨0, Nat.zero_le _, rfl, Below.refl _ _⟩
  case round =>
    obtain ⟨k, hk, rfl, hbe⟩ := hrel
    by_cases hlt : k < l.length
    · obtain ⟨y, hy, hym⟩ := get_lt l k hlt
      obtain ⟨b1, o1, hix1, hbl1, c1⟩ := ch_ix (ha.later hbe) k y hy
      obtain ⟨b2, o2, hix2, hbl2, c2⟩ := ch_ix (hb.later hbe) k y hy
      have hkI : (k : Int) < l.length := by omega
      go_wp2_with fail
      go_quiet (fail)
      go_wp2
      go_roundw
      case rel => exact ⟨k + 1, by omega, by go_num, below_drewN hbe _⟩
      case measure => simp [intOf]; omega
    · have hk2 : k = l.length := by omega
      subst hk2
      go_wp2
      go_ret
      exact ⟨rfl, hbe⟩
end Go.Proofs.Ytkhhkgfaakgdfaa.pg
/- OrderByClocks. -/
namespace Go.Proofs.Ytkhhkgfaakgdfaa.pg
open Go.ChangeShapes Go.WideShapes Go.ChangeAt Go.RowKit Go.Shelf
set_option linter.unusedVariables false
set_option linter.unusedSimpArgs false
set_option maxRecDepth 100000
attribute [local go_sem ↓] Go.wp_at_zero Go.wp_at_succ
theorem place_any (l : List Ev) (la : Option Addr) (lc : Nat) (i : Int) (hI : (l.length : Int) ≤ 9223372036854775807) (w : World) : Calls Try.prog 25 #[.slice la l.length lc, .int .i64 i] w fun e w' => e = .returned (.bool (decide (0 ≤ i ∧ i < l.length))) ∧ w' = w := by
  by_cases h0 : 0 ≤ i
  · by_cases h1 : i < l.length
    · have hh : Hid (decide (0 ≤ i ∧ i < l.length) = true) := by show _ = _; simp [h0, h1]
      rw [hh.out]
      go_enter Try.func25, Try.ntmps25
      go_wp2
      go_ret
      exact ⟨rfl, rfl⟩
    · have hh : Hid (decide (0 ≤ i ∧ i < l.length) = false) := by show _ = _; simp [h0, h1]
      have hd : decide (i < (l.length : Int)) = false := by simpa using h1
      rw [hh.out]
      clear h1
      go_enter Try.func25, Try.ntmps25
      go_wp2
      go_ret
      exact ⟨rfl, rfl⟩
  · have hh : Hid (decide (0 ≤ i ∧ i < l.length) = false) := by show _ = _; simp [h0]
    have hd : decide (0 ≤ i) = false := by simpa using h0
    rw [hh.out]
    clear h0
    go_enter Try.func25, Try.ntmps25
    go_wp2
    go_ret
    exact ⟨rfl, rfl⟩
/-- As far as a loop over a clock's numbers has come. -/
def ulTo (x y : Ck) (b : Bool) (k : Nat) : Bool := b && (List.range k).all fun q => decide (x.of q ≤ y.of q)
theorem ulTo_more (x y : Ck) (b : Bool) (k : Nat) : ulTo x y b (k + 1) = (ulTo x y b k && decide (x.of k ≤ y.of k)) := by
  unfold ulTo
  rw [List.range_succ, List.all_append]
  simp [Bool.and_assoc]
section
variable {l : List Ev} (hrt : ∀ x ∈ l, rightP x)
include hrt
theorem under_eq {i j : Nat} (hi : i < l.length) (hj : j < l.length) : ulTo ((rel (evf l) l.length).1.getD i zeroK) ((rel (evf l) l.length).1.getD j zeroK) (decide (i < j)) 6 = befK (rel (evf l) l.length).1 l i j := by
  obtain ⟨B, hB⟩ := tells_some (dpf l)
  have hl := rel_len (evf l) l.length
  have ei : (rel (evf l) l.length).1[i]? = some ((rel (evf l) l.length).1.getD i zeroK) := by rw [List.getD_eq_getElem?_getD, List.getElem?_eq_getElem (by omega)]; rfl
  have ej : (rel (evf l) l.length).1[j]? = some ((rel (evf l) l.length).1.getD j zeroK) := by rw [List.getD_eq_getElem?_getD, List.getElem?_eq_getElem (by omega)]; rfl
  have xi := rel_is hrt hB l.length (Nat.le_refl _) i _ ei
  have xj := rel_is hrt hB l.length (Nat.le_refl _) j _ ej
  unfold befK
  generalize (rel (evf l) l.length).1.getD i zeroK = x at *
  generalize (rel (evf l) l.length).1.getD j zeroK = y at *
  have hg : gof l i < 6 := gof_lt hrt hi
  unfold ulTo
  by_cases hij : i < j
  · simp only [hij, decide_true, Bool.true_and]
    rw [Bool.eq_iff_iff, List.all_eq_true, decide_eq_true_eq]
    have h1 := before_iff hB (ord_ok hrt) hij hj
    have h2 := under_iff hB (ord_ok hrt) hij hj
    constructor
    · intro h
      have := h (gof l i) (List.mem_range.mpr hg)
      exact of_decide_eq_true this
    · intro h q hq
      rw [List.mem_range] at hq
      have hb : B i j = true := h1.mp (by
        have a := xi (gof l i) hg
        have b := xj (gof l i) hg
        unfold gof at a b ⊢
        omega)
      have := (h2.mpr hb) q
      rw [decide_eq_true_eq, xi q hq, xj q hq]
      omega
  · simp [hij]
end
end Go.Proofs.Ytkhhkgfaakgdfaa.pg
