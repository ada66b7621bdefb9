/- The contracts of the document's own operations: of one operand (1 to 9), bit by bit, shifts, turns, comparisons. -/
import Derived.Test.YtecimplpfghikabPbM
import Derived.Test.YtecimplpfghikabOps
import Derived.Test.YtecimplpfghikabRefWide
namespace Go.Proofs.Ytecimplpfghikab.word
open Go.ChangeShapes Go.WideShapes Go.ChangeAt Go.RowKit
open wrapped
set_option linter.unusedVariables false
theorem refyes_any (b : Bool) (w : World) (r : Int) (hr : (if b then 1 else 0 : Int) = r) : Calls Try.prog 33 #[.bool b] w fun e w' => e = .returned (.int .i64 r) ∧ w' = w := by
  subst hr
  cases b <;> (go_enter Try.func33, Try.ntmps33; go_wp2; go_ret; exact ⟨rfl, rfl⟩)
theorem refone1 (a : Int) (w : World) : Calls Try.prog 23 #[.int .i64 1, .int .i64 a] w fun e w' => e = .returned (.int .i64 (wrap64 (-a))) ∧ w' = w := by
  go_enter Try.func23, Try.ntmps23
  go_wp2
  go_ret
  exact ⟨rfl, rfl⟩
theorem refone2 (a : Int) (h : -9223372036854775808 ≤ a) (g : a ≤ 9223372036854775807) (w : World) : Calls Try.prog 23 #[.int .i64 2, .int .i64 a] w fun e w' => e = .returned (.int .i64 (bits .xor .i64 (-1) a)) ∧ w' = w := by
  rw [xor_not a h g]
  go_enter Try.func23, Try.ntmps23
  go_wp2
  go_ret
  exact ⟨ret_int (by first | rfl | omega | (unfold wrap64; omega)), rfl⟩
theorem refone3 (a : Int) (w : World) : Calls Try.prog 23 #[.int .i64 3, .int .i64 a] w fun e w' => e = .returned (.int .i64 (if a < 0 then wrap64 (-a) else a)) ∧ w' = w := by
  by_cases h : a < 0
  · rw [if_pos h]
    go_enter Try.func23, Try.ntmps23
    go_wp2
    go_ret
    exact ⟨rfl, rfl⟩
  · rw [if_neg h]
    go_enter Try.func23, Try.ntmps23
    go_wp2
    go_ret
    exact ⟨rfl, rfl⟩
theorem refone4 (a : Int) (w : World) : Calls Try.prog 23 #[.int .i64 4, .int .i64 a] w fun e w' => e = .returned (.int .i64 (onesN a 64)) ∧ w' = w := by
  go_enter Try.func23, Try.ntmps23
  go_wp2
  go_loop [5, 6] (fun n i => ∃ (k : Nat) (x : Int), k ≤ 64 ∧ i = .int .i64 k ∧ n = .int .i64 x ∧ 0 ≤ x ∧ x ≤ 64 ∧ Hid (x = onesN a k)) (fun _ i => 64 - (intOf i).toNat)
  case atStart => exact ⟨0, 0, Nat.zero_le _, rfl, rfl, by decide, by decide, rfl⟩
  case round =>
    obtain ⟨k, x, hk, rfl, rfl, x0, x1, hx⟩ := hrel
    by_cases hlt : k < 64
    · have hb := bitOf_01 a k
      have hbit := refbit_any a k hlt
      have hn := onesN_bd a (k + 1)
      have hs : onesN a (k + 1) = onesN a k + bitOf a k := rfl
      have hxs : Hid (x + bitOf a k = onesN a (k + 1)) := by show x + bitOf a k = _; rw [hs, hx.out]
      have hx2 : 0 ≤ x + bitOf a k ∧ x + bitOf a k ≤ 64 := by rw [hxs.out]; omega
      generalize bitOf a k = B at *
      clear hn hs hx
      go_wp2_with (go_at_call 13; with_reducible refine (hbit _).mono ?_; rintro e w' ⟨rfl, hw⟩; replace hw := hw.symm; subst hw)
      go_round
      case rel => exact ⟨k + 1, x + B, by omega, by go_num, rfl, hx2.1, hx2.2, hxs⟩
      case measure => simp [intOf]; omega
    · go_wp2
      go_ret
      have : k = 64 := by omega
      subst this
      exact ⟨ret_int hx.out, rfl⟩
theorem refone5 (a : Int) (w : World) : Calls Try.prog 23 #[.int .i64 5, .int .i64 a] w fun e w' => ∃ n : Nat, IsLead a n ∧ e = .returned (.int .i64 n) ∧ w' = w := by
  go_enter Try.func23, Try.ntmps23
  go_wp2
  go_loop [7, 8] (fun n i => ∃ k : Nat, k ≤ 64 ∧ i = .int .i64 (63 - (k : Int)) ∧ n = .int .i64 k ∧ Hid (∀ j, j < k → bitOf a (63 - j) = 0)) (fun n _ => 64 - (intOf n).toNat)
  case atStart => exact ⟨0, Nat.zero_le _, rfl, rfl, fun j hj => by omega⟩
  case round =>
    obtain ⟨k, hk, rfl, rfl, hx⟩ := hrel
    by_cases hlt : k < 64
    · have hbit := refbit_any a (63 - k) (by omega)
      rw [show ((63 - k : Nat) : Int) = 63 - (k : Int) by omega] at hbit
      have hb := bitOf_01 a (63 - k)
      obtain ⟨B, hB⟩ : ∃ B, Hid (bitOf a (63 - k) = B) := ⟨_, rfl⟩
      rw [hB.out] at hbit hb
      have hk0 : (0 : Int) ≤ 63 - (k : Int) := by omega
      rcases (by omega : B = 0 ∨ B = 1) with rfl | rfl
      · clear hb
        go_wp2_with (go_at_call 13; with_reducible refine (hbit _).mono ?_; rintro e w' ⟨rfl, hw⟩; replace hw := hw.symm; subst hw)
        go_round
        case rel => exact ⟨k + 1, by omega, by go_num, by go_num, fun j hj => by rcases Nat.lt_or_ge j k with h | h; exact hx.out j h; exact (show j = k by omega) ▸ hB.out⟩
        case measure => simp [intOf]; omega
      · clear hb
        go_wp2_with (go_at_call 13; with_reducible refine (hbit _).mono ?_; rintro e w' ⟨rfl, hw⟩; replace hw := hw.symm; subst hw)
        go_ret
        exact ⟨k, ⟨by omega, hx.out, fun _ => hB.out⟩, rfl, rfl⟩
    · have h64 : k = 64 := by omega
      subst h64
      go_wp2
      go_ret
      exact ⟨64, ⟨by omega, hx.out, fun h => by omega⟩, rfl, rfl⟩
/-- How many bits that are 0 a word ends with. -/
def IsTrail (a : Int) (n : Nat) : Prop := n ≤ 64 ∧ (∀ j, j < n → bitOf a j = 0) ∧ (n < 64 → bitOf a n = 1)
theorem trail_lead (a : Int) (n : Nat) (h : IsLead (wrap64 (flipN a 64)) n) : IsTrail a n := by
  obtain ⟨h1, h2, h3⟩ := h
  have e : ∀ j, j < 64 → bitOf (wrap64 (flipN a 64)) (63 - j) = bitOf a j := fun j hj => by
    rw [bitOf_wrap _ _ (by omega), bitOf_flip a 64 (63 - j) (by omega), show 64 - 1 - (63 - j) = j by omega]
  refine ⟨h1, fun j hj => ?_, fun hn => ?_⟩
  · rw [← e j (by omega)]; exact h2 j hj
  · rw [← e n hn]; exact h3 hn
theorem lead_one (a : Int) (n m : Nat) (h : IsLead a n) (g : IsLead a m) : n = m := by
  obtain ⟨h1, h2, h3⟩ := h
  obtain ⟨g1, g2, g3⟩ := g
  rcases Nat.lt_trichotomy n m with e | e | e
  · have := g2 n e; have := h3 (by omega); omega
  · exact e
  · have := h2 m e; have := g3 (by omega); omega
theorem trail_one (a : Int) (n m : Nat) (h : IsTrail a n) (g : IsTrail a m) : n = m := by
  obtain ⟨h1, h2, h3⟩ := h
  obtain ⟨g1, g2, g3⟩ := g
  rcases Nat.lt_trichotomy n m with e | e | e
  · have := g2 n e; have := h3 (by omega); omega
  · exact e
  · have := h2 m e; have := g3 (by omega); omega
theorem refone6 (a : Int) (w : World) : Calls Try.prog 23 #[.int .i64 6, .int .i64 a] w fun e w' => ∃ n : Nat, IsTrail a n ∧ e = .returned (.int .i64 n) ∧ w' = w := by
  go_enter Try.func23, Try.ntmps23
  go_wp2
  go_loop [9, 10] (fun n i => ∃ k : Nat, k ≤ 64 ∧ i = .int .i64 k ∧ n = .int .i64 k ∧ Hid (∀ j, j < k → bitOf a j = 0)) (fun n _ => 64 - (intOf n).toNat)
  case atStart => exact ⟨0, Nat.zero_le _, rfl, rfl, fun j hj => by omega⟩
  case round =>
    obtain ⟨k, hk, rfl, rfl, hx⟩ := hrel
    by_cases hlt : k < 64
    · have hbit := refbit_any a k (by omega)
      have hb := bitOf_01 a k
      obtain ⟨B, hB⟩ : ∃ B, Hid (bitOf a k = B) := ⟨_, rfl⟩
      rw [hB.out] at hbit hb
      rcases (by omega : B = 0 ∨ B = 1) with rfl | rfl
      · clear hb
        go_wp2_with (go_at_call 13; with_reducible refine (hbit _).mono ?_; rintro e w' ⟨rfl, hw⟩; replace hw := hw.symm; subst hw)
        go_round
        case rel => exact ⟨k + 1, by omega, by go_num, by go_num, fun j hj => by rcases Nat.lt_or_ge j k with h | h; exact hx.out j h; exact (show j = k by omega) ▸ hB.out⟩
        case measure => simp [intOf]; omega
      · clear hb
        go_wp2_with (go_at_call 13; with_reducible refine (hbit _).mono ?_; rintro e w' ⟨rfl, hw⟩; replace hw := hw.symm; subst hw)
        go_ret
        exact ⟨k, ⟨by omega, hx.out, fun _ => hB.out⟩, rfl, rfl⟩
    · have h64 : k = 64 := by omega
      subst h64
      go_wp2
      go_ret
      exact ⟨64, ⟨by omega, hx.out, fun h => by omega⟩, rfl, rfl⟩
theorem refone7 (a : Int) (w : World) : Calls Try.prog 23 #[.int .i64 7, .int .i64 a] w fun e w' => e = .returned (.int .i64 (wrap64 (flipN a 64))) ∧ w' = w := by
  have hv : ∀ k, 0 ≤ (fun k => bitOf a (63 - k)) k ∧ (fun k => bitOf a (63 - k)) k ≤ 1 := fun k => bitOf_01 a _
  have hfin : Hid (wrap64 (pb (fun k => bitOf a (63 - k)) 64) = wrap64 (flipN a 64)) :=
    pb_word _ hv _ (by unfold wrap64; omega) (by unfold wrap64; omega) fun k hk => by rw [bitOf_wrap _ k hk, bitOf_flip a 64 k hk]
  go_enter Try.func23, Try.ntmps23
  go_wp2
  go_loop [11, 12] (fun r i => ∃ (k : Nat) (x : Int), k ≤ 64 ∧ i = .int .i64 k ∧ r = .int .i64 x ∧ Hid (x = wrap64 (pb (fun k => bitOf a (63 - k)) k))) (fun _ i => 64 - (intOf i).toNat)
  case atStart => exact ⟨0, 0, Nat.zero_le _, rfl, rfl, by show (0 : Int) = wrap64 0; simp [wrap64]⟩
  case round =>
    obtain ⟨k, x, hk, rfl, rfl, hx⟩ := hrel
    by_cases hlt : k < 64
    · have hbd := pb_bd _ hv k
      have hput := refput_as x (bitOf a (63 - k)) _ k hlt hbd.1 hbd.2 (hv k).1 (hv k).2 hx.out
      have hbit := refbit_any a (63 - k) (by omega)
      rw [show ((63 - k : Nat) : Int) = 63 - (k : Int) by omega] at hbit
      have hnx : Hid (wrap64 (pb (fun k => bitOf a (63 - k)) k + bitOf a (63 - k) * 2 ^ k) = wrap64 (pb (fun k => bitOf a (63 - k)) (k + 1))) := rfl
      generalize wrap64 (pb (fun k => bitOf a (63 - k)) k + bitOf a (63 - k) * 2 ^ k) = y at *
      clear hbd hx
      go_wp2_with (first | (go_at_call 13; with_reducible refine (hbit _).mono ?_; rintro e w' ⟨rfl, hw⟩; replace hw := hw.symm; subst hw) | (go_at_call 25; with_reducible refine (hput _).mono ?_; rintro e w' ⟨rfl, hw⟩; replace hw := hw.symm; subst hw))
      go_round
      case rel => exact ⟨k + 1, y, by omega, by go_num, rfl, hnx⟩
      case measure => simp [intOf]; omega
    · go_wp2
      go_ret
      have : k = 64 := by omega
      subst this
      exact ⟨ret_int (hx.out.trans hfin.out), rfl⟩
theorem refone8 (a : Int) (w : World) : Calls Try.prog 23 #[.int .i64 8, .int .i64 a] w fun e w' => e = .returned (.int .i64 (if a = 0 then 0 else 1)) ∧ w' = w := by
  have y0 := fun w => refyes_any false w 0 rfl
  have y1 := fun w => refyes_any true w 1 rfl
  by_cases h : a = 0
  · rw [if_pos h]; subst h
    go_enter Try.func23, Try.ntmps23
    go_wp2_with (go_at_call 33; first | (with_reducible refine (y0 _).mono ?_; rintro e w' ⟨rfl, hw⟩; replace hw := hw.symm; subst hw) | (with_reducible refine (y1 _).mono ?_; rintro e w' ⟨rfl, hw⟩; replace hw := hw.symm; subst hw))
    go_ret
    exact ⟨rfl, rfl⟩
  · rw [if_neg h]
    have h1 : (a == 0) = false := by simpa using h
    have h2 : (a != 0) = true := by simpa using h
    go_enter Try.func23, Try.ntmps23
    go_wp2_with (go_at_call 33; first | (with_reducible refine (y0 _).mono ?_; rintro e w' ⟨rfl, hw⟩; replace hw := hw.symm; subst hw) | (with_reducible refine (y1 _).mono ?_; rintro e w' ⟨rfl, hw⟩; replace hw := hw.symm; subst hw))
    go_ret
    exact ⟨rfl, rfl⟩
theorem refone9 (a : Int) (w : World) : Calls Try.prog 23 #[.int .i64 9, .int .i64 a] w fun e w' => e = .returned (.int .i64 (if a = 0 then 1 else 0)) ∧ w' = w := by
  have y0 := fun w => refyes_any false w 0 rfl
  have y1 := fun w => refyes_any true w 1 rfl
  by_cases h : a = 0
  · rw [if_pos h]; subst h
    go_enter Try.func23, Try.ntmps23
    go_wp2_with (go_at_call 33; first | (with_reducible refine (y0 _).mono ?_; rintro e w' ⟨rfl, hw⟩; replace hw := hw.symm; subst hw) | (with_reducible refine (y1 _).mono ?_; rintro e w' ⟨rfl, hw⟩; replace hw := hw.symm; subst hw))
    go_ret
    exact ⟨rfl, rfl⟩
  · rw [if_neg h]
    have h1 : (a == 0) = false := by simpa using h
    have h2 : (a != 0) = true := by simpa using h
    go_enter Try.func23, Try.ntmps23
    go_wp2_with (go_at_call 33; first | (with_reducible refine (y0 _).mono ?_; rintro e w' ⟨rfl, hw⟩; replace hw := hw.symm; subst hw) | (with_reducible refine (y1 _).mono ?_; rintro e w' ⟨rfl, hw⟩; replace hw := hw.symm; subst hw))
    go_ret
    exact ⟨rfl, rfl⟩
end Go.Proofs.Ytecimplpfghikab.word
