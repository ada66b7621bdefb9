/- The contracts of the document's own operations: of one operand (1 to 9), bit by bit, shifts, turns, comparisons. -/
import Derived.Test.YtjcmhaaohdmjpaaDoorM13
import Derived.Test.YtjcmhaaohdmjpaaDoorM14
import Derived.Test.YtjcmhaaohdmjpaaDoorM11
namespace Go.Proofs.YtjcmhaaohdmjpaaDoor.word
open Go.ChangeShapes Go.WideShapes Go.ChangeAt Go.RowKit
open wrapped
set_option linter.unusedVariables false
theorem refyes_any (b : Bool) (w : World) (r : Int) (hr : (if b then 1 else 0 : Int) = r) : Calls Tryd.prog 77 #[.bool b] w fun e w' => e = .returned (.int .i64 r) ∧ w' = w := by
  subst hr
  cases b <;> (go_enter Tryd.func77, Tryd.ntmps77; go_wp2; go_ret; exact ⟨rfl, rfl⟩)
theorem refone1 (a : Int) (w : World) : Calls Tryd.prog 57 #[.int .i64 1, .int .i64 a] w fun e w' => e = .returned (.int .i64 (wrap64 (-a))) ∧ w' = w := by
  go_enter Tryd.func57, Tryd.ntmps57
  go_wp2
  go_ret
  exact ⟨rfl, rfl⟩
theorem refone2 (a : Int) (h : -9223372036854775808 ≤ a) (g : a ≤ 9223372036854775807) (w : World) : Calls Tryd.prog 57 #[.int .i64 2, .int .i64 a] w fun e w' => e = .returned (.int .i64 (bits .xor .i64 (-1) a)) ∧ w' = w := by
  rw [xor_not a h g]
  go_enter Tryd.func57, Tryd.ntmps57
  go_wp2
  go_ret
  exact ⟨ret_int (by first | rfl | omega | (unfold wrap64; omega)), rfl⟩
theorem refone3 (a : Int) (w : World) : Calls Tryd.prog 57 #[.int .i64 3, .int .i64 a] w fun e w' => e = .returned (.int .i64 (if a < 0 then wrap64 (-a) else a)) ∧ w' = w := by
  by_cases h : a < 0
  · rw [if_pos h]
    go_enter Tryd.func57, Tryd.ntmps57
    go_wp2
    go_ret
    exact ⟨rfl, rfl⟩
  · rw [if_neg h]
    go_enter Tryd.func57, Tryd.ntmps57
    go_wp2
    go_ret
    exact ⟨rfl, rfl⟩
theorem refone4 (a : Int) (w : World) : Calls Tryd.prog 57 #[.int .i64 4, .int .i64 a] w fun e w' => e = .returned (.int .i64 (onesN a 64)) ∧ w' = w := by
  go_enter Tryd.func57, Tryd.ntmps57
  go_wp2
  go_loop [5, 6] (fun n i => ∃ (k : Nat) (x : Int), k ≤ 64 ∧ i = .int .i64 k ∧ n = .int .i64 x ∧ 0 ≤ x ∧ x ≤ 64 ∧ Hid (x = onesN a k)) (fun _ i => 64 - (intOf i).toNat)
  case atStart => exact ⟨0, 0, Nat.zero_le _, rfl, rfl, by decide, by decide, rfl⟩
  case round =>
    obtain ⟨k, x, hk, rfl, rfl, x0, x1, hx⟩ := hrel
    by_cases hlt : k < 64
    · have hb := bitOf_01 a k
      have hbit := refbit_any a k hlt
      have hn := onesN_bd a (k + 1)
      have hs : onesN a (k + 1) = onesN a k + bitOf a k := rfl
      have hxs : Hid (x + bitOf a k = onesN a (k + 1)) := by show x + bitOf a k = _; rw [hs, hx.out]
      have hx2 : 0 ≤ x + bitOf a k ∧ x + bitOf a k ≤ 64 := by rw [hxs.out]; omega
      generalize bitOf a k = B at *
      clear hn hs hx
      go_wp2_with (go_at_call 75; with_reducible refine (hbit _).mono ?_; rintro e w' ⟨rfl, hw⟩; replace hw := hw.symm; subst hw)
      go_round
      case rel => exact ⟨k + 1, x + B, by omega, by go_num, rfl, hx2.1, hx2.2, hxs⟩
      case measure => simp [intOf]; omega
    · go_wp2
      go_ret
      have : k = 64 := by omega
      subst this
      exact ⟨ret_int hx.out, rfl⟩
theorem refone5 (a : Int) (w : World) : Calls Tryd.prog 57 #[.int .i64 5, .int .i64 a] w fun e w' => ∃ n : Nat, IsLead a n ∧ e = .returned (.int .i64 n) ∧ w' = w := by
  go_enter Tryd.func57, Tryd.ntmps57
  go_wp2
  go_loop [7, 8] (fun n i => ∃ k : Nat, k ≤ 64 ∧ i = .int .i64 (63 - (k : Int)) ∧ n = .int .i64 k ∧ Hid (∀ j, j < k → bitOf a (63 - j) = 0)) (fun n _ => 64 - (intOf n).toNat)
  case atStart => exact ⟨0, Nat.zero_le _, rfl, rfl, fun j hj => by omega⟩
  case round =>
    obtain ⟨k, hk, rfl, rfl, hx⟩ := hrel
    by_cases hlt : k < 64
    · have hbit := refbit_any a (63 - k) (by omega)
      rw [show ((63 - k : Nat) : Int) = 63 - (k : Int) by omega] at hbit
      have hb := bitOf_01 a (63 - k)
      obtain ⟨B, hB⟩ : ∃ B, Hid (bitOf a (63 - k) = B) := ⟨_, rfl⟩
      rw [hB.out] at hbit hb
      have hk0 : (0 : Int) ≤ 63 - (k : Int) := by omega
      rcases (by omega : B = 0 ∨ B = 1) with rfl | rfl
      · clear hb
        go_wp2_with (go_at_call 75; with_reducible refine (hbit _).mono ?_; rintro e w' ⟨rfl, hw⟩; replace hw := hw.symm; subst hw)
        go_round
        case rel => exact ⟨k + 1, by omega, by go_num, by go_num, fun j hj => by rcases Nat.lt_or_ge j k with h | h; exact hx.out j h; exact (show j = k by omega) ▸ hB.out⟩
        case measure => simp [intOf]; omega
      · clear hb
        go_wp2_with (go_at_call 75; with_reducible refine (hbit _).mono ?_; rintro e w' ⟨rfl, hw⟩; replace hw := hw.symm; subst hw)
        go_ret
        exact ⟨k, ⟨by omega, hx.out, fun _ => hB.out⟩, rfl, rfl⟩
    · have h64 : k = 64 := by omega
      subst h64
      go_wp2
      go_ret
      exact ⟨64, ⟨by omega, hx.out, fun h => by omega⟩, rfl, rfl⟩
/-- How many bits that are 0 a word ends with. -/
def IsTrail (a : Int) (n : Nat) : Prop := n ≤ 64 ∧ (∀ j, j < n → bitOf a j = 0) ∧ (n < 64 → bitOf a n = 1)
theorem trail_lead (a : Int) (n : Nat) (h : IsLead (wrap64 (flipN a 64)) n) : IsTrail a n := by
  obtain ⟨h1, h2, h3⟩ := h
  have e : ∀ j, j < 64 → bitOf (wrap64 (flipN a 64)) (63 - j) = bitOf a j := fun j hj => by
    rw [bitOf_wrap _ _ (by omega), bitOf_flip a 64 (63 - j) (by omega), show 64 - 1 - (63 - j) = j by omega]
  refine ⟨h1, fun j hj => ?_, fun hn => ?_⟩
  · rw [← e j (by omega)]; exact h2 j hj
  · rw [← e n hn]; exact h3 hn
theorem lead_one (a : Int) (n m : Nat) (h : IsLead a n) (g : IsLead a m) : n = m := by
  obtain ⟨h1, h2, h3⟩ := h
  obtain ⟨g1, g2, g3⟩ := g
  rcases Nat.lt_trichotomy n m with e | e | e
  · have := g2 n e; have := h3 (by omega); omega
  · exact e
  · have := h2 m e; have := g3 (by omega); omega
theorem trail_one (a : Int) (n m : Nat) (h : IsTrail a n) (g : IsTrail a m) : n = m := by
  obtain ⟨h1, h2, h3⟩ := h
  obtain ⟨g1, g2, g3⟩ := g
  rcases Nat.lt_trichotomy n m with e | e | e
  · have := g2 n e; have := h3 (by omega); omega
  · exact e
  · have := h2 m e; have := g3 (by omega); omega
theorem refone6 (a : Int) (w : World) : Calls Tryd.prog 57 #[.int .i64 6, .int .i64 a] w fun e w' => ∃ n : Nat, IsTrail a n ∧ e = .returned (.int .i64 n) ∧ w' = w := by
  go_enter Tryd.func57, Tryd.ntmps57
  go_wp2
  go_loop [9, 10] (fun n i => ∃ k : Nat, k ≤ 64 ∧ i = .int .i64 k ∧ n = .int .i64 k ∧ Hid (∀ j, j < k → bitOf a j = 0)) (fun n _ => 64 - (intOf n).toNat)
  case atStart => exact ⟨0, Nat.zero_le _, rfl, rfl, fun j hj => by omega⟩
  case round =>
    obtain ⟨k, hk, rfl, rfl, hx⟩ := hrel
    by_cases hlt : k < 64
    · have hbit := refbit_any a k (by omega)
      have hb := bitOf_01 a k
      obtain ⟨B, hB⟩ : ∃ B, Hid (bitOf a k = B) := ⟨_, rfl⟩
      rw [hB.out] at hbit hb
      rcases (by omega : B = 0 ∨ B = 1) with rfl | rfl
      · clear hb
        go_wp2_with (go_at_call 75; with_reducible refine (hbit _).mono ?_; rintro e w' ⟨rfl, hw⟩; replace hw := hw.symm; subst hw)
        go_round
        case rel => exact ⟨k + 1, by omega, by go_num, by go_num, fun j hj => by rcases Nat.lt_or_ge j k with h | h; exact hx.out j h; exact (show j = k by omega) ▸ hB.out⟩
        case measure => simp [intOf]; omega
      · clear hb
        go_wp2_with (go_at_call 75; with_reducible refine (hbit _).mono ?_; rintro e w' ⟨rfl, hw⟩; replace hw := hw.symm; subst hw)
        go_ret
        exact ⟨k, ⟨by omega, hx.out, fun _ => hB.out⟩, rfl, rfl⟩
    · have h64 : k = 64 := by omega
      subst h64
      go_wp2
      go_ret
      exact ⟨64, ⟨by omega, hx.out, fun h => by omega⟩, rfl, rfl⟩
theorem refone7 (a : Int) (w : World) : Calls Tryd.prog 57 #[.int .i64 7, .int .i64 a] w fun e w' => e = .returned (.int .i64 (wrap64 (flipN a 64))) ∧ w' = w := by
  have hv : ∀ k, 0 ≤ (fun k => bitOf a (63 - k)) k ∧ (fun k => bitOf a (63 - k)) k ≤ 1 := fun k => bitOf_01 a _
  have hfin : Hid (wrap64 (pb (fun k => bitOf a (63 - k)) 64) = wrap64 (flipN a 64)) :=
    pb_word _ hv _ (by unfold wrap64; omega) (by unfold wrap64; omega) fun k hk => by rw [bitOf_wrap _ k hk, bitOf_flip a 64 k hk]
  go_enter Tryd.func57, Tryd.ntmps57
  go_wp2
  go_loop [11, 12] (fun r i => ∃ (k : Nat) (x : Int), k ≤ 64 ∧ i = .int .i64 k ∧ r = .int .i64 x ∧ Hid (x = wrap64 (pb (fun k => bitOf a (63 - k)) k))) (fun _ i => 64 - (intOf i).toNat)
  case atStart => exact ⟨0, 0, Nat.zero_le _, rfl, rfl, by show (0 : Int) = wrap64 0; simp [wrap64]⟩
  case round =>
    obtain ⟨k, x, hk, rfl, rfl, hx⟩ := hrel
    by_cases hlt : k < 64
    · have hbd := pb_bd _ hv k
      have hput := refput_as x (bitOf a (63 - k)) _ k hlt hbd.1 hbd.2 (hv k).1 (hv k).2 hx.out
      have hbit := refbit_any a (63 - k) (by omega)
      rw [show ((63 - k : Nat) : Int) = 63 - (k : Int) by omega] at hbit
      have hnx : Hid (wrap64 (pb (fun k => bitOf a (63 - k)) k + bitOf a (63 - k) * 2 ^ k) = wrap64 (pb (fun k => bitOf a (63 - k)) (k + 1))) := rfl
      generalize wrap64 (pb (fun k => bitOf a (63 - k)) k + bitOf a (63 - k) * 2 ^ k) = y at *
      clear hbd hx
      go_wp2_with (first | (go_at_call 75; with_reducible refine (hbit _).mono ?_; rintro e w' ⟨rfl, hw⟩; replace hw := hw.symm; subst hw) | (go_at_call 76; with_reducible refine (hput _).mono ?_; rintro e w' ⟨rfl, hw⟩; replace hw := hw.symm; subst hw))
      go_round
      case rel => exact ⟨k + 1, y, by omega, by go_num, rfl, hnx⟩
      case measure => simp [intOf]; omega
    · go_wp2
      go_ret
      have : k = 64 := by omega
      subst this
      exact ⟨ret_int (hx.out.trans hfin.out), rfl⟩
theorem refone8 (a : Int) (w : World) : Calls Tryd.prog 57 #[.int .i64 8, .int .i64 a] w fun e w' => e = .returned (.int .i64 (if a = 0 then 0 else 1)) ∧ w' = w := by
  have y0 := fun w => refyes_any false w 0 rfl
  have y1 := fun w => refyes_any true w 1 rfl
  by_cases h : a = 0
  · rw [if_pos h]; subst h
    go_enter Tryd.func57, Tryd.ntmps57
    go_wp2_with (go_at_call 77; first | (with_reducible refine (y0 _).mono ?_; rintro e w' ⟨rfl, hw⟩; replace hw := hw.symm; subst hw) | (with_reducible refine (y1 _).mono ?_; rintro e w' ⟨rfl, hw⟩; replace hw := hw.symm; subst hw))
    go_ret
    exact ⟨rfl, rfl⟩
  · rw [if_neg h]
    have h1 : (a == 0) = false := by simpa using h
    have h2 : (a != 0) = true := by simpa using h
    go_enter Tryd.func57, Tryd.ntmps57
    go_wp2_with (go_at_call 77; first | (with_reducible refine (y0 _).mono ?_; rintro e w' ⟨rfl, hw⟩; replace hw := hw.symm; subst hw) | (with_reducible refine (y1 _).mono ?_; rintro e w' ⟨rfl, hw⟩; replace hw := hw.symm; subst hw))
    go_ret
    exact ⟨rfl, rfl⟩
theorem refone9 (a : Int) (w : World) : Calls Tryd.prog 57 #[.int .i64 9, .int .i64 a] w fun e w' => e = .returned (.int .i64 (if a = 0 then 1 else 0)) ∧ w' = w := by
  have y0 := fun w => refyes_any false w 0 rfl
  have y1 := fun w => refyes_any true w 1 rfl
  by_cases h : a = 0
  · rw [if_pos h]; subst h
    go_enter Tryd.func57, Tryd.ntmps57
    go_wp2_with (go_at_call 77; first | (with_reducible refine (y0 _).mono ?_; rintro e w' ⟨rfl, hw⟩; replace hw := hw.symm; subst hw) | (with_reducible refine (y1 _).mono ?_; rintro e w' ⟨rfl, hw⟩; replace hw := hw.symm; subst hw))
    go_ret
    exact ⟨rfl, rfl⟩
  · rw [if_neg h]
    have h1 : (a == 0) = false := by simpa using h
    have h2 : (a != 0) = true := by simpa using h
    go_enter Tryd.func57, Tryd.ntmps57
    go_wp2_with (go_at_call 77; first | (with_reducible refine (y0 _).mono ?_; rintro e w' ⟨rfl, hw⟩; replace hw := hw.symm; subst hw) | (with_reducible refine (y1 _).mono ?_; rintro e w' ⟨rfl, hw⟩; replace hw := hw.symm; subst hw))
    go_ret
    exact ⟨rfl, rfl⟩
end Go.Proofs.YtjcmhaaohdmjpaaDoor.word
/- The contracts of the document's own operations of two operands. -/
namespace Go.Proofs.YtjcmhaaohdmjpaaDoor.word
open Go.ChangeShapes Go.WideShapes Go.ChangeAt Go.RowKit
open wrapped
set_option linter.unusedVariables false
def v21 (a b : Int) (k : Nat) : Int := if bitOf a k + bitOf b k = 2 then 1 else 0
theorem v21_01 (a b : Int) (k : Nat) : 0 ≤ v21 a b k ∧ v21 a b k ≤ 1 := by unfold v21; split <;> decide
set_option maxHeartbeats 1000000 in
theorem refbits21 (a b : Int) (la : -9223372036854775808 ≤ a) (ha : a ≤ 9223372036854775807) (lb : -9223372036854775808 ≤ b) (hb : b ≤ 9223372036854775807) (w : World) : Calls Tryd.prog 80 #[.int .i64 21, .int .i64 a, .int .i64 b] w fun e w' => e = .returned (.int .i64 (bits .and .i64 a b)) ∧ w' = w := by
  have hfin : Hid (wrap64 (pb (v21 a b) 64) = bits .and .i64 a b) := by
    refine pb_word _ (v21_01 a b) _ ?_ ?_ fun k hk => and_bit a b la ha lb hb k hk
    · first | (rw [bits_and_eq]; exact (toInt_bd _).1) | (rw [bits_or_eq]; exact (toInt_bd _).1) | (rw [bits_xor_eq]; exact (toInt_bd _).1)
    · first | (rw [bits_and_eq]; exact (toInt_bd _).2) | (rw [bits_or_eq]; exact (toInt_bd _).2) | (rw [bits_xor_eq]; exact (toInt_bd _).2)
  have y0 := fun w => refyes_any false w 0 rfl
  have y1 := fun w => refyes_any true w 1 rfl
  go_enter Tryd.func80, Tryd.ntmps80
  go_wp2
  go_loop [7, 8] (fun r i => ∃ (k : Nat) (x : Int), k ≤ 64 ∧ i = .int .i64 k ∧ r = .int .i64 x ∧ Hid (x = wrap64 (pb (v21 a b) k))) (fun _ i => 64 - (intOf i).toNat)
  case atStart => exact ⟨0, 0, Nat.zero_le _, rfl, rfl, by show (0 : Int) = wrap64 0; simp [wrap64]⟩
  case round =>
    obtain ⟨k, x, hk, rfl, rfl, hx⟩ := hrel
    by_cases hlt : k < 64
    · have hbd := pb_bd _ (v21_01 a b) k
      have hb1 := refbit_any a k hlt
      have hb2 := refbit_any b k hlt
      have h1 := bitOf_01 a k
      have h2 := bitOf_01 b k
      have hvk : Hid (v21 a b k = if bitOf a k + bitOf b k = 2 then 1 else 0) := rfl
      have hput := fun c (hc : v21 a b k = c) (c0 : 0 ≤ c) (c1 : c ≤ 1) => refput_as x c (pb (v21 a b) k) k hlt hbd.1 hbd.2 c0 c1 hx.out
      have hnx : ∀ c, v21 a b k = c → Hid (wrap64 (pb (v21 a b) k + c * 2 ^ k) = wrap64 (pb (v21 a b) (k + 1))) := fun c hc => by rw [← hc]; rfl
      obtain ⟨X, hX⟩ : ∃ X, Hid (bitOf a k = X) := ⟨_, rfl⟩
      obtain ⟨Y, hY⟩ : ∃ Y, Hid (bitOf b k = Y) := ⟨_, rfl⟩
      rw [hX.out] at hb1 h1
      rw [hY.out] at hb2 h2
      have hvk2 := hvk.out
      rw [hX.out, hY.out] at hvk2
      rcases (by omega : X = 0 ∨ X = 1) with rfl | rfl <;> rcases (by omega : Y = 0 ∨ Y = 1) with rfl | rfl
      · have hc : v21 a b k = 0 := hvk2
        replace hput := hput 0 hc (by decide) (by decide)
        replace hnx := hnx 0 hc
        generalize wrap64 (pb (v21 a b) k + 0 * 2 ^ k) = z at *
        clear hbd hx hvk hvk2 hc h1 h2 hX hY
        go_wp2_with (first | (go_at_call 75; first | (with_reducible refine (hb1 _).mono ?_; rintro e w' ⟨rfl, hw⟩; replace hw := hw.symm; subst hw) | (with_reducible refine (hb2 _).mono ?_; rintro e w' ⟨rfl, hw⟩; replace hw := hw.symm; subst hw)) | (go_at_call 77; first | (with_reducible refine (y0 _).mono ?_; rintro e w' ⟨rfl, hw⟩; replace hw := hw.symm; subst hw) | (with_reducible refine (y1 _).mono ?_; rintro e w' ⟨rfl, hw⟩; replace hw := hw.symm; subst hw)) | (go_at_call 76; with_reducible refine (hput _).mono ?_; rintro e w' ⟨rfl, hw⟩; replace hw := hw.symm; subst hw))
        go_round
        case rel => exact ⟨k + 1, z, by omega, by go_num, rfl, hnx⟩
        case measure => simp [intOf]; omega
      · have hc : v21 a b k = 0 := hvk2
        replace hput := hput 0 hc (by decide) (by decide)
        replace hnx := hnx 0 hc
        generalize wrap64 (pb (v21 a b) k + 0 * 2 ^ k) = z at *
        clear hbd hx hvk hvk2 hc h1 h2 hX hY
        go_wp2_with (first | (go_at_call 75; first | (with_reducible refine (hb1 _).mono ?_; rintro e w' ⟨rfl, hw⟩; replace hw := hw.symm; subst hw) | (with_reducible refine (hb2 _).mono ?_; rintro e w' ⟨rfl, hw⟩; replace hw := hw.symm; subst hw)) | (go_at_call 77; first | (with_reducible refine (y0 _).mono ?_; rintro e w' ⟨rfl, hw⟩; replace hw := hw.symm; subst hw) | (with_reducible refine (y1 _).mono ?_; rintro e w' ⟨rfl, hw⟩; replace hw := hw.symm; subst hw)) | (go_at_call 76; with_reducible refine (hput _).mono ?_; rintro e w' ⟨rfl, hw⟩; replace hw := hw.symm; subst hw))
        go_round
        case rel => exact ⟨k + 1, z, by omega, by go_num, rfl, hnx⟩
        case measure => simp [intOf]; omega
      · have hc : v21 a b k = 0 := hvk2
        replace hput := hput 0 hc (by decide) (by decide)
        replace hnx := hnx 0 hc
        generalize wrap64 (pb (v21 a b) k + 0 * 2 ^ k) = z at *
        clear hbd hx hvk hvk2 hc h1 h2 hX hY
        go_wp2_with (first | (go_at_call 75; first | (with_reducible refine (hb1 _).mono ?_; rintro e w' ⟨rfl, hw⟩; replace hw := hw.symm; subst hw) | (with_reducible refine (hb2 _).mono ?_; rintro e w' ⟨rfl, hw⟩; replace hw := hw.symm; subst hw)) | (go_at_call 77; first | (with_reducible refine (y0 _).mono ?_; rintro e w' ⟨rfl, hw⟩; replace hw := hw.symm; subst hw) | (with_reducible refine (y1 _).mono ?_; rintro e w' ⟨rfl, hw⟩; replace hw := hw.symm; subst hw)) | (go_at_call 76; with_reducible refine (hput _).mono ?_; rintro e w' ⟨rfl, hw⟩; replace hw := hw.symm; subst hw))
        go_round
        case rel => exact ⟨k + 1, z, by omega, by go_num, rfl, hnx⟩
        case measure => simp [intOf]; omega
      · have hc : v21 a b k = 1 := hvk2
        replace hput := hput 1 hc (by decide) (by decide)
        replace hnx := hnx 1 hc
        generalize wrap64 (pb (v21 a b) k + 1 * 2 ^ k) = z at *
        clear hbd hx hvk hvk2 hc h1 h2 hX hY
        go_wp2_with (first | (go_at_call 75; first | (with_reducible refine (hb1 _).mono ?_; rintro e w' ⟨rfl, hw⟩; replace hw := hw.symm; subst hw) | (with_reducible refine (hb2 _).mono ?_; rintro e w' ⟨rfl, hw⟩; replace hw := hw.symm; subst hw)) | (go_at_call 77; first | (with_reducible refine (y0 _).mono ?_; rintro e w' ⟨rfl, hw⟩; replace hw := hw.symm; subst hw) | (with_reducible refine (y1 _).mono ?_; rintro e w' ⟨rfl, hw⟩; replace hw := hw.symm; subst hw)) | (go_at_call 76; with_reducible refine (hput _).mono ?_; rintro e w' ⟨rfl, hw⟩; replace hw := hw.symm; subst hw))
        go_round
        case rel => exact ⟨k + 1, z, by omega, by go_num, rfl, hnx⟩
        case measure => simp [intOf]; omega
    · go_wp2
      go_ret
      have : k = 64 := by omega
      subst this
      exact ⟨ret_int (hx.out.trans hfin.out), rfl⟩
def v22 (a b : Int) (k : Nat) : Int := if 0 < bitOf a k + bitOf b k then 1 else 0
theorem v22_01 (a b : Int) (k : Nat) : 0 ≤ v22 a b k ∧ v22 a b k ≤ 1 := by unfold v22; split <;> decide
set_option maxHeartbeats 1000000 in
theorem refbits22 (a b : Int) (la : -9223372036854775808 ≤ a) (ha : a ≤ 9223372036854775807) (lb : -9223372036854775808 ≤ b) (hb : b ≤ 9223372036854775807) (w : World) : Calls Tryd.prog 80 #[.int .i64 22, .int .i64 a, .int .i64 b] w fun e w' => e = .returned (.int .i64 (bits .or .i64 a b)) ∧ w' = w := by
  have hfin : Hid (wrap64 (pb (v22 a b) 64) = bits .or .i64 a b) := by
    refine pb_word _ (v22_01 a b) _ ?_ ?_ fun k hk => or_bits a b la ha lb hb k hk
    · first | (rw [bits_and_eq]; exact (toInt_bd _).1) | (rw [bits_or_eq]; exact (toInt_bd _).1) | (rw [bits_xor_eq]; exact (toInt_bd _).1)
    · first | (rw [bits_and_eq]; exact (toInt_bd _).2) | (rw [bits_or_eq]; exact (toInt_bd _).2) | (rw [bits_xor_eq]; exact (toInt_bd _).2)
  have y0 := fun w => refyes_any false w 0 rfl
  have y1 := fun w => refyes_any true w 1 rfl
  go_enter Tryd.func80, Tryd.ntmps80
  go_wp2
  go_loop [7, 8] (fun r i => ∃ (k : Nat) (x : Int), k ≤ 64 ∧ i = .int .i64 k ∧ r = .int .i64 x ∧ Hid (x = wrap64 (pb (v22 a b) k))) (fun _ i => 64 - (intOf i).toNat)
  case atStart => exact ⟨0, 0, Nat.zero_le _, rfl, rfl, by show (0 : Int) = wrap64 0; simp [wrap64]⟩
  case round =>
    obtain ⟨k, x, hk, rfl, rfl, hx⟩ := hrel
    by_cases hlt : k < 64
    · have hbd := pb_bd _ (v22_01 a b) k
      have hb1 := refbit_any a k hlt
      have hb2 := refbit_any b k hlt
      have h1 := bitOf_01 a k
      have h2 := bitOf_01 b k
      have hvk : Hid (v22 a b k = if 0 < bitOf a k + bitOf b k then 1 else 0) := rfl
      have hput := fun c (hc : v22 a b k = c) (c0 : 0 ≤ c) (c1 : c ≤ 1) => refput_as x c (pb (v22 a b) k) k hlt hbd.1 hbd.2 c0 c1 hx.out
      have hnx : ∀ c, v22 a b k = c → Hid (wrap64 (pb (v22 a b) k + c * 2 ^ k) = wrap64 (pb (v22 a b) (k + 1))) := fun c hc => by rw [← hc]; rfl
      obtain ⟨X, hX⟩ : ∃ X, Hid (bitOf a k = X) := ⟨_, rfl⟩
      obtain ⟨Y, hY⟩ : ∃ Y, Hid (bitOf b k = Y) := ⟨_, rfl⟩
      rw [hX.out] at hb1 h1
      rw [hY.out] at hb2 h2
      have hvk2 := hvk.out
      rw [hX.out, hY.out] at hvk2
      rcases (by omega : X = 0 ∨ X = 1) with rfl | rfl <;> rcases (by omega : Y = 0 ∨ Y = 1) with rfl | rfl
      · have hc : v22 a b k = 0 := hvk2
        replace hput := hput 0 hc (by decide) (by decide)
        replace hnx := hnx 0 hc
        generalize wrap64 (pb (v22 a b) k + 0 * 2 ^ k) = z at *
        clear hbd hx hvk hvk2 hc h1 h2 hX hY
        go_wp2_with (first | (go_at_call 75; first | (with_reducible refine (hb1 _).mono ?_; rintro e w' ⟨rfl, hw⟩; replace hw := hw.symm; subst hw) | (with_reducible refine (hb2 _).mono ?_; rintro e w' ⟨rfl, hw⟩; replace hw := hw.symm; subst hw)) | (go_at_call 77; first | (with_reducible refine (y0 _).mono ?_; rintro e w' ⟨rfl, hw⟩; replace hw := hw.symm; subst hw) | (with_reducible refine (y1 _).mono ?_; rintro e w' ⟨rfl, hw⟩; replace hw := hw.symm; subst hw)) | (go_at_call 76; with_reducible refine (hput _).mono ?_; rintro e w' ⟨rfl, hw⟩; replace hw := hw.symm; subst hw))
        go_round
        case rel => exact ⟨k + 1, z, by omega, by go_num, rfl, hnx⟩
        case measure => simp [intOf]; omega
      · have hc : v22 a b k = 1 := hvk2
        replace hput := hput 1 hc (by decide) (by decide)
        replace hnx := hnx 1 hc
        generalize wrap64 (pb (v22 a b) k + 1 * 2 ^ k) = z at *
        clear hbd hx hvk hvk2 hc h1 h2 hX hY
        go_wp2_with (first | (go_at_call 75; first | (with_reducible refine (hb1 _).mono ?_; rintro e w' ⟨rfl, hw⟩; replace hw := hw.symm; subst hw) | (with_reducible refine (hb2 _).mono ?_; rintro e w' ⟨rfl, hw⟩; replace hw := hw.symm; subst hw)) | (go_at_call 77; first | (with_reducible refine (y0 _).mono ?_; rintro e w' ⟨rfl, hw⟩; replace hw := hw.symm; subst hw) | (with_reducible refine (y1 _).mono ?_; rintro e w' ⟨rfl, hw⟩; replace hw := hw.symm; subst hw)) | (go_at_call 76; with_reducible refine (hput _).mono ?_; rintro e w' ⟨rfl, hw⟩; replace hw := hw.symm; subst hw))
        go_round
        case rel => exact ⟨k + 1, z, by omega, by go_num, rfl, hnx⟩
        case measure => simp [intOf]; omega
      · have hc : v22 a b k = 1 := hvk2
        replace hput := hput 1 hc (by decide) (by decide)
        replace hnx := hnx 1 hc
        generalize wrap64 (pb (v22 a b) k + 1 * 2 ^ k) = z at *
        clear hbd hx hvk hvk2 hc h1 h2 hX hY
        go_wp2_with (first | (go_at_call 75; first | (with_reducible refine (hb1 _).mono ?_; rintro e w' ⟨rfl, hw⟩; replace hw := hw.symm; subst hw) | (with_reducible refine (hb2 _).mono ?_; rintro e w' ⟨rfl, hw⟩; replace hw := hw.symm; subst hw)) | (go_at_call 77; first | (with_reducible refine (y0 _).mono ?_; rintro e w' ⟨rfl, hw⟩; replace hw := hw.symm; subst hw) | (with_reducible refine (y1 _).mono ?_; rintro e w' ⟨rfl, hw⟩; replace hw := hw.symm; subst hw)) | (go_at_call 76; with_reducible refine (hput _).mono ?_; rintro e w' ⟨rfl, hw⟩; replace hw := hw.symm; subst hw))
        go_round
        case rel => exact ⟨k + 1, z, by omega, by go_num, rfl, hnx⟩
        case measure => simp [intOf]; omega
      · have hc : v22 a b k = 1 := hvk2
        replace hput := hput 1 hc (by decide) (by decide)
        replace hnx := hnx 1 hc
        generalize wrap64 (pb (v22 a b) k + 1 * 2 ^ k) = z at *
        clear hbd hx hvk hvk2 hc h1 h2 hX hY
        go_wp2_with (first | (go_at_call 75; first | (with_reducible refine (hb1 _).mono ?_; rintro e w' ⟨rfl, hw⟩; replace hw := hw.symm; subst hw) | (with_reducible refine (hb2 _).mono ?_; rintro e w' ⟨rfl, hw⟩; replace hw := hw.symm; subst hw)) | (go_at_call 77; first | (with_reducible refine (y0 _).mono ?_; rintro e w' ⟨rfl, hw⟩; replace hw := hw.symm; subst hw) | (with_reducible refine (y1 _).mono ?_; rintro e w' ⟨rfl, hw⟩; replace hw := hw.symm; subst hw)) | (go_at_call 76; with_reducible refine (hput _).mono ?_; rintro e w' ⟨rfl, hw⟩; replace hw := hw.symm; subst hw))
        go_round
        case rel => exact ⟨k + 1, z, by omega, by go_num, rfl, hnx⟩
        case measure => simp [intOf]; omega
    · go_wp2
      go_ret
      have : k = 64 := by omega
      subst this
      exact ⟨ret_int (hx.out.trans hfin.out), rfl⟩
def v23 (a b : Int) (k : Nat) : Int := if bitOf a k + bitOf b k = 1 then 1 else 0
theorem v23_01 (a b : Int) (k : Nat) : 0 ≤ v23 a b k ∧ v23 a b k ≤ 1 := by unfold v23; split <;> decide
set_option maxHeartbeats 1000000 in
theorem refbits23 (a b : Int) (la : -9223372036854775808 ≤ a) (ha : a ≤ 9223372036854775807) (lb : -9223372036854775808 ≤ b) (hb : b ≤ 9223372036854775807) (w : World) : Calls Tryd.prog 80 #[.int .i64 23, .int .i64 a, .int .i64 b] w fun e w' => e = .returned (.int .i64 (bits .xor .i64 a b)) ∧ w' = w := by
  have hfin : Hid (wrap64 (pb (v23 a b) 64) = bits .xor .i64 a b) := by
    refine pb_word _ (v23_01 a b) _ ?_ ?_ fun k hk => xor_bits a b la ha lb hb k hk
    · first | (rw [bits_and_eq]; exact (toInt_bd _).1) | (rw [bits_or_eq]; exact (toInt_bd _).1) | (rw [bits_xor_eq]; exact (toInt_bd _).1)
    · first | (rw [bits_and_eq]; exact (toInt_bd _).2) | (rw [bits_or_eq]; exact (toInt_bd _).2) | (rw [bits_xor_eq]; exact (toInt_bd _).2)
  have y0 := fun w => refyes_any false w 0 rfl
  have y1 := fun w => refyes_any true w 1 rfl
  go_enter Tryd.func80, Tryd.ntmps80
  go_wp2
  go_loop [7, 8] (fun r i => ∃ (k : Nat) (x : Int), k ≤ 64 ∧ i = .int .i64 k ∧ r = .int .i64 x ∧ Hid (x = wrap64 (pb (v23 a b) k))) (fun _ i => 64 - (intOf i).toNat)
  case atStart => exact ⟨0, 0, Nat.zero_le _, rfl, rfl, by show (0 : Int) = wrap64 0; simp [wrap64]⟩
  case round =>
    obtain ⟨k, x, hk, rfl, rfl, hx⟩ := hrel
    by_cases hlt : k < 64
    · have hbd := pb_bd _ (v23_01 a b) k
      have hb1 := refbit_any a k hlt
      have hb2 := refbit_any b k hlt
      have h1 := bitOf_01 a k
      have h2 := bitOf_01 b k
      have hvk : Hid (v23 a b k = if bitOf a k + bitOf b k = 1 then 1 else 0) := rfl
      have hput := fun c (hc : v23 a b k = c) (c0 : 0 ≤ c) (c1 : c ≤ 1) => refput_as x c (pb (v23 a b) k) k hlt hbd.1 hbd.2 c0 c1 hx.out
      have hnx : ∀ c, v23 a b k = c → Hid (wrap64 (pb (v23 a b) k + c * 2 ^ k) = wrap64 (pb (v23 a b) (k + 1))) := fun c hc => by rw [← hc]; rfl
      obtain ⟨X, hX⟩ : ∃ X, Hid (bitOf a k = X) := ⟨_, rfl⟩
      obtain ⟨Y, hY⟩ : ∃ Y, Hid (bitOf b k = Y) := ⟨_, rfl⟩
      rw [hX.out] at hb1 h1
      rw [hY.out] at hb2 h2
      have hvk2 := hvk.out
      rw [hX.out, hY.out] at hvk2
      rcases (by omega : X = 0 ∨ X = 1) with rfl | rfl <;> rcases (by omega : Y = 0 ∨ Y = 1) with rfl | rfl
      · have hc : v23 a b k = 0 := hvk2
        replace hput := hput 0 hc (by decide) (by decide)
        replace hnx := hnx 0 hc
        generalize wrap64 (pb (v23 a b) k + 0 * 2 ^ k) = z at *
        clear hbd hx hvk hvk2 hc h1 h2 hX hY
        go_wp2_with (first | (go_at_call 75; first | (with_reducible refine (hb1 _).mono ?_; rintro e w' ⟨rfl, hw⟩; replace hw := hw.symm; subst hw) | (with_reducible refine (hb2 _).mono ?_; rintro e w' ⟨rfl, hw⟩; replace hw := hw.symm; subst hw)) | (go_at_call 77; first | (with_reducible refine (y0 _).mono ?_; rintro e w' ⟨rfl, hw⟩; replace hw := hw.symm; subst hw) | (with_reducible refine (y1 _).mono ?_; rintro e w' ⟨rfl, hw⟩; replace hw := hw.symm; subst hw)) | (go_at_call 76; with_reducible refine (hput _).mono ?_; rintro e w' ⟨rfl, hw⟩; replace hw := hw.symm; subst hw))
        go_round
        case rel => exact ⟨k + 1, z, by omega, by go_num, rfl, hnx⟩
        case measure => simp [intOf]; omega
      · have hc : v23 a b k = 1 := hvk2
        replace hput := hput 1 hc (by decide) (by decide)
        replace hnx := hnx 1 hc
        generalize wrap64 (pb (v23 a b) k + 1 * 2 ^ k) = z at *
        clear hbd hx hvk hvk2 hc h1 h2 hX hY
        go_wp2_with (first | (go_at_call 75; first | (with_reducible refine (hb1 _).mono ?_; rintro e w' ⟨rfl, hw⟩; replace hw := hw.symm; subst hw) | (with_reducible refine (hb2 _).mono ?_; rintro e w' ⟨rfl, hw⟩; replace hw := hw.symm; subst hw)) | (go_at_call 77; first | (with_reducible refine (y0 _).mono ?_; rintro e w' ⟨rfl, hw⟩; replace hw := hw.symm; subst hw) | (with_reducible refine (y1 _).mono ?_; rintro e w' ⟨rfl, hw⟩; replace hw := hw.symm; subst hw)) | (go_at_call 76; with_reducible refine (hput _).mono ?_; rintro e w' ⟨rfl, hw⟩; replace hw := hw.symm; subst hw))
        go_round
        case rel => exact ⟨k + 1, z, by omega, by go_num, rfl, hnx⟩
        case measure => simp [intOf]; omega
      · have hc : v23 a b k = 1 := hvk2
        replace hput := hput 1 hc (by decide) (by decide)
        replace hnx := hnx 1 hc
        generalize wrap64 (pb (v23 a b) k + 1 * 2 ^ k) = z at *
        clear hbd hx hvk hvk2 hc h1 h2 hX hY
        go_wp2_with (first | (go_at_call 75; first | (with_reducible refine (hb1 _).mono ?_; rintro e w' ⟨rfl, hw⟩; replace hw := hw.symm; subst hw) | (with_reducible refine (hb2 _).mono ?_; rintro e w' ⟨rfl, hw⟩; replace hw := hw.symm; subst hw)) | (go_at_call 77; first | (with_reducible refine (y0 _).mono ?_; rintro e w' ⟨rfl, hw⟩; replace hw := hw.symm; subst hw) | (with_reducible refine (y1 _).mono ?_; rintro e w' ⟨rfl, hw⟩; replace hw := hw.symm; subst hw)) | (go_at_call 76; with_reducible refine (hput _).mono ?_; rintro e w' ⟨rfl, hw⟩; replace hw := hw.symm; subst hw))
        go_round
        case rel => exact ⟨k + 1, z, by omega, by go_num, rfl, hnx⟩
        case measure => simp [intOf]; omega
      · have hc : v23 a b k = 0 := hvk2
        replace hput := hput 0 hc (by decide) (by decide)
        replace hnx := hnx 0 hc
        generalize wrap64 (pb (v23 a b) k + 0 * 2 ^ k) = z at *
        clear hbd hx hvk hvk2 hc h1 h2 hX hY
        go_wp2_with (first | (go_at_call 75; first | (with_reducible refine (hb1 _).mono ?_; rintro e w' ⟨rfl, hw⟩; replace hw := hw.symm; subst hw) | (with_reducible refine (hb2 _).mono ?_; rintro e w' ⟨rfl, hw⟩; replace hw := hw.symm; subst hw)) | (go_at_call 77; first | (with_reducible refine (y0 _).mono ?_; rintro e w' ⟨rfl, hw⟩; replace hw := hw.symm; subst hw) | (with_reducible refine (y1 _).mono ?_; rintro e w' ⟨rfl, hw⟩; replace hw := hw.symm; subst hw)) | (go_at_call 76; with_reducible refine (hput _).mono ?_; rintro e w' ⟨rfl, hw⟩; replace hw := hw.symm; subst hw))
        go_round
        case rel => exact ⟨k + 1, z, by omega, by go_num, rfl, hnx⟩
        case measure => simp [intOf]; omega
    · go_wp2
      go_ret
      have : k = 64 := by omega
      subst this
      exact ⟨ret_int (hx.out.trans hfin.out), rfl⟩
def v24 (a b : Int) (k : Nat) : Int := if bitOf a k = 1 ∧ bitOf b k = 0 then 1 else 0
theorem v24_01 (a b : Int) (k : Nat) : 0 ≤ v24 a b k ∧ v24 a b k ≤ 1 := by unfold v24; split <;> decide
set_option maxHeartbeats 1000000 in
theorem refbits24 (a b : Int) (la : -9223372036854775808 ≤ a) (ha : a ≤ 9223372036854775807) (lb : -9223372036854775808 ≤ b) (hb : b ≤ 9223372036854775807) (w : World) : Calls Tryd.prog 80 #[.int .i64 24, .int .i64 a, .int .i64 b] w fun e w' => e = .returned (.int .i64 (bits .and .i64 a (bits .xor .i64 (-1) b))) ∧ w' = w := by
  have hfin : Hid (wrap64 (pb (v24 a b) 64) = bits .and .i64 a (bits .xor .i64 (-1) b)) := by
    refine pb_word _ (v24_01 a b) _ ?_ ?_ fun k hk => clear_bits a b la ha lb hb k hk
    · first | (rw [bits_and_eq]; exact (toInt_bd _).1) | (rw [bits_or_eq]; exact (toInt_bd _).1) | (rw [bits_xor_eq]; exact (toInt_bd _).1)
    · first | (rw [bits_and_eq]; exact (toInt_bd _).2) | (rw [bits_or_eq]; exact (toInt_bd _).2) | (rw [bits_xor_eq]; exact (toInt_bd _).2)
  have y0 := fun w => refyes_any false w 0 rfl
  have y1 := fun w => refyes_any true w 1 rfl
  go_enter Tryd.func80, Tryd.ntmps80
  go_wp2
  go_loop [7, 8] (fun r i => ∃ (k : Nat) (x : Int), k ≤ 64 ∧ i = .int .i64 k ∧ r = .int .i64 x ∧ Hid (x = wrap64 (pb (v24 a b) k))) (fun _ i => 64 - (intOf i).toNat)
  case atStart => exact ⟨0, 0, Nat.zero_le _, rfl, rfl, by show (0 : Int) = wrap64 0; simp [wrap64]⟩
  case round =>
    obtain ⟨k, x, hk, rfl, rfl, hx⟩ := hrel
    by_cases hlt : k < 64
    · have hbd := pb_bd _ (v24_01 a b) k
      have hb1 := refbit_any a k hlt
      have hb2 := refbit_any b k hlt
      have h1 := bitOf_01 a k
      have h2 := bitOf_01 b k
      have hvk : Hid (v24 a b k = if bitOf a k = 1 ∧ bitOf b k = 0 then 1 else 0) := rfl
      have hput := fun c (hc : v24 a b k = c) (c0 : 0 ≤ c) (c1 : c ≤ 1) => refput_as x c (pb (v24 a b) k) k hlt hbd.1 hbd.2 c0 c1 hx.out
      have hnx : ∀ c, v24 a b k = c → Hid (wrap64 (pb (v24 a b) k + c * 2 ^ k) = wrap64 (pb (v24 a b) (k + 1))) := fun c hc => by rw [← hc]; rfl
      obtain ⟨X, hX⟩ : ∃ X, Hid (bitOf a k = X) := ⟨_, rfl⟩
      obtain ⟨Y, hY⟩ : ∃ Y, Hid (bitOf b k = Y) := ⟨_, rfl⟩
      rw [hX.out] at hb1 h1
      rw [hY.out] at hb2 h2
      have hvk2 := hvk.out
      rw [hX.out, hY.out] at hvk2
      rcases (by omega : X = 0 ∨ X = 1) with rfl | rfl <;> rcases (by omega : Y = 0 ∨ Y = 1) with rfl | rfl
      · have hc : v24 a b k = 0 := hvk2
        replace hput := hput 0 hc (by decide) (by decide)
        replace hnx := hnx 0 hc
        generalize wrap64 (pb (v24 a b) k + 0 * 2 ^ k) = z at *
        clear hbd hx hvk hvk2 hc h1 h2 hX hY
        go_wp2_with (first | (go_at_call 75; first | (with_reducible refine (hb1 _).mono ?_; rintro e w' ⟨rfl, hw⟩; replace hw := hw.symm; subst hw) | (with_reducible refine (hb2 _).mono ?_; rintro e w' ⟨rfl, hw⟩; replace hw := hw.symm; subst hw)) | (go_at_call 77; first | (with_reducible refine (y0 _).mono ?_; rintro e w' ⟨rfl, hw⟩; replace hw := hw.symm; subst hw) | (with_reducible refine (y1 _).mono ?_; rintro e w' ⟨rfl, hw⟩; replace hw := hw.symm; subst hw)) | (go_at_call 76; with_reducible refine (hput _).mono ?_; rintro e w' ⟨rfl, hw⟩; replace hw := hw.symm; subst hw))
        go_round
        case rel => exact ⟨k + 1, z, by omega, by go_num, rfl, hnx⟩
        case measure => simp [intOf]; omega
      · have hc : v24 a b k = 0 := hvk2
        replace hput := hput 0 hc (by decide) (by decide)
        replace hnx := hnx 0 hc
        generalize wrap64 (pb (v24 a b) k + 0 * 2 ^ k) = z at *
        clear hbd hx hvk hvk2 hc h1 h2 hX hY
        go_wp2_with (first | (go_at_call 75; first | (with_reducible refine (hb1 _).mono ?_; rintro e w' ⟨rfl, hw⟩; replace hw := hw.symm; subst hw) | (with_reducible refine (hb2 _).mono ?_; rintro e w' ⟨rfl, hw⟩; replace hw := hw.symm; subst hw)) | (go_at_call 77; first | (with_reducible refine (y0 _).mono ?_; rintro e w' ⟨rfl, hw⟩; replace hw := hw.symm; subst hw) | (with_reducible refine (y1 _).mono ?_; rintro e w' ⟨rfl, hw⟩; replace hw := hw.symm; subst hw)) | (go_at_call 76; with_reducible refine (hput _).mono ?_; rintro e w' ⟨rfl, hw⟩; replace hw := hw.symm; subst hw))
        go_round
        case rel => exact ⟨k + 1, z, by omega, by go_num, rfl, hnx⟩
        case measure => simp [intOf]; omega
      · have hc : v24 a b k = 1 := hvk2
        replace hput := hput 1 hc (by decide) (by decide)
        replace hnx := hnx 1 hc
        generalize wrap64 (pb (v24 a b) k + 1 * 2 ^ k) = z at *
        clear hbd hx hvk hvk2 hc h1 h2 hX hY
        go_wp2_with (first | (go_at_call 75; first | (with_reducible refine (hb1 _).mono ?_; rintro e w' ⟨rfl, hw⟩; replace hw := hw.symm; subst hw) | (with_reducible refine (hb2 _).mono ?_; rintro e w' ⟨rfl, hw⟩; replace hw := hw.symm; subst hw)) | (go_at_call 77; first | (with_reducible refine (y0 _).mono ?_; rintro e w' ⟨rfl, hw⟩; replace hw := hw.symm; subst hw) | (with_reducible refine (y1 _).mono ?_; rintro e w' ⟨rfl, hw⟩; replace hw := hw.symm; subst hw)) | (go_at_call 76; with_reducible refine (hput _).mono ?_; rintro e w' ⟨rfl, hw⟩; replace hw := hw.symm; subst hw))
        go_round
        case rel => exact ⟨k + 1, z, by omega, by go_num, rfl, hnx⟩
        case measure => simp [intOf]; omega
      · have hc : v24 a b k = 0 := hvk2
        replace hput := hput 0 hc (by decide) (by decide)
        replace hnx := hnx 0 hc
        generalize wrap64 (pb (v24 a b) k + 0 * 2 ^ k) = z at *
        clear hbd hx hvk hvk2 hc h1 h2 hX hY
        go_wp2_with (first | (go_at_call 75; first | (with_reducible refine (hb1 _).mono ?_; rintro e w' ⟨rfl, hw⟩; replace hw := hw.symm; subst hw) | (with_reducible refine (hb2 _).mono ?_; rintro e w' ⟨rfl, hw⟩; replace hw := hw.symm; subst hw)) | (go_at_call 77; first | (with_reducible refine (y0 _).mono ?_; rintro e w' ⟨rfl, hw⟩; replace hw := hw.symm; subst hw) | (with_reducible refine (y1 _).mono ?_; rintro e w' ⟨rfl, hw⟩; replace hw := hw.symm; subst hw)) | (go_at_call 76; with_reducible refine (hput _).mono ?_; rintro e w' ⟨rfl, hw⟩; replace hw := hw.symm; subst hw))
        go_round
        case rel => exact ⟨k + 1, z, by omega, by go_num, rfl, hnx⟩
        case measure => simp [intOf]; omega
    · go_wp2
      go_ret
      have : k = 64 := by omega
      subst this
      exact ⟨ret_int (hx.out.trans hfin.out), rfl⟩
/-- The bits of a, each by places higher; what comes in is t. -/
def vs (a d t : Int) (k : Nat) : Int := if 0 ≤ (k : Int) - d ∧ (k : Int) - d < 64 then bitOf a ((k : Int) - d).toNat else t
theorem vs_01 (a d t : Int) (t0 : 0 ≤ t) (t1 : t ≤ 1) (k : Nat) : 0 ≤ vs a d t k ∧ vs a d t k ≤ 1 := by
  unfold vs; split
  · exact bitOf_01 a _
  · exact ⟨t0, t1⟩
set_option maxHeartbeats 1000000 in
theorem refshifted_any (a d t X : Int) (d0 : -64 ≤ d) (d1 : d ≤ 64) (t0 : 0 ≤ t) (t1 : t ≤ 1) (hX : Hid (wrap64 (pb (vs a d t) 64) = X)) (w : World) :
    Calls Tryd.prog 81 #[.int .i64 a, .int .i64 d, .int .i64 t] w fun e w' => e = .returned (.int .i64 X) ∧ w' = w := by
  go_enter Tryd.func81, Tryd.ntmps81
  go_wp2
  go_loop [7, 8] (fun r i => ∃ (k : Nat) (x : Int), k ≤ 64 ∧ i = .int .i64 k ∧ r = .int .i64 x ∧ Hid (x = wrap64 (pb (vs a d t) k))) (fun _ i => 64 - (intOf i).toNat)
  case atStart => exact ⟨0, 0, Nat.zero_le _, rfl, rfl, by show (0 : Int) = wrap64 0; simp [wrap64]⟩
  case round =>
    obtain ⟨k, x, hk, rfl, rfl, hx⟩ := hrel
    by_cases hlt : k < 64
    · have hbd := pb_bd _ (vs_01 a d t t0 t1) k
      have h1 := vs_01 a d t t0 t1 k
      have hput := refput_as x (vs a d t k) (pb (vs a d t) k) k hlt hbd.1 hbd.2 h1.1 h1.2 hx.out
      have hnx : Hid (wrap64 (pb (vs a d t) k + vs a d t k * 2 ^ k) = wrap64 (pb (vs a d t) (k + 1))) := rfl
      by_cases hin : 0 ≤ (k : Int) - d ∧ (k : Int) - d < 64
      · have hv : vs a d t k = bitOf a ((k : Int) - d).toNat := by unfold vs; rw [if_pos hin]
        have hbit := refbit_any a ((k : Int) - d).toNat (by omega)
        rw [Int.toNat_of_nonneg hin.1] at hbit
        rw [hv] at hput hnx
        generalize bitOf a ((k : Int) - d).toNat = B at *
        generalize wrap64 (pb (vs a d t) k + B * 2 ^ k) = z at *
        obtain ⟨hi0, hi1⟩ := hin
        clear hbd hx hv h1 hX
        go_wp2_with (first | (go_at_call 75; with_reducible refine (hbit _).mono ?_; rintro e w' ⟨rfl, hw⟩; replace hw := hw.symm; subst hw) | (go_at_call 76; with_reducible refine (hput _).mono ?_; rintro e w' ⟨rfl, hw⟩; replace hw := hw.symm; subst hw))
        go_round
        case rel => exact ⟨k + 1, z, by omega, by go_num, rfl, hnx⟩
        case measure => simp [intOf]; omega
      · have hv : vs a d t k = t := by unfold vs; rw [if_neg hin]
        rw [hv] at hput hnx
        generalize wrap64 (pb (vs a d t) k + t * 2 ^ k) = z at *
        clear hbd hx hv h1 hX
        by_cases hlo : (k : Int) - d < 0
        · clear hin
          go_wp2_with (go_at_call 76; with_reducible refine (hput _).mono ?_; rintro e w' ⟨rfl, hw⟩; replace hw := hw.symm; subst hw)
          go_round
          case rel => exact ⟨k + 1, z, by omega, by go_num, rfl, hnx⟩
          case measure => simp [intOf]; omega
        · have hhi : 64 ≤ (k : Int) - d := by omega
          clear hin
          go_wp2_with (go_at_call 76; with_reducible refine (hput _).mono ?_; rintro e w' ⟨rfl, hw⟩; replace hw := hw.symm; subst hw)
          go_round
          case rel => exact ⟨k + 1, z, by omega, by go_num, rfl, hnx⟩
          case measure => simp [intOf]; omega
    · go_wp2
      go_ret
      have : k = 64 := by omega
      subst this
      exact ⟨ret_int (hx.out.trans hX.out), rfl⟩
theorem reffew_any (b : Int) (h : 0 ≤ b) (s : Int) (hs : ((min b.toNat 64 : Nat) : Int) = s) (w : World) : Calls Tryd.prog 82 #[.int .i64 b] w fun e w' => e = .returned (.int .i64 s) ∧ w' = w := by
  by_cases h64 : 64 < b
  · have : s = 64 := by omega
    subst this
    go_enter Tryd.func82, Tryd.ntmps82
    go_wp2
    go_ret
    exact ⟨rfl, rfl⟩
  · have : s = b := by omega
    subst this
    clear hs
    go_enter Tryd.func82, Tryd.ntmps82
    go_wp2
    go_ret
    exact ⟨rfl, rfl⟩
theorem ediv_bd (a : Int) (la : -9223372036854775808 ≤ a) (ha : a ≤ 9223372036854775807) (s : Nat) : -9223372036854775808 ≤ a / 2 ^ s ∧ a / 2 ^ s ≤ 9223372036854775807 := by
  have hp := pos2 s
  generalize (2 : Int) ^ s = P at *
  constructor
  · rw [Int.le_ediv_iff_mul_le hp]
    have : 9223372036854775808 * 1 ≤ 9223372036854775808 * P := Int.mul_le_mul_of_nonneg_left (by omega) (by decide)
    omega
  · have h1 : a / P < 9223372036854775808 := by
      rw [Int.ediv_lt_iff_lt_mul hp]
      have : 9223372036854775808 * 1 ≤ 9223372036854775808 * P := Int.mul_le_mul_of_nonneg_left (by omega) (by decide)
      omega
    omega
theorem shl_word (a : Int) (s : Nat) (hs : s ≤ 64) : wrap64 (pb (vs a (s : Int) 0) 64) = wrap64 (a * 2 ^ s) := by
  refine pb_word _ (vs_01 a _ 0 (by decide) (by decide)) _ (by unfold wrap64; omega) (by unfold wrap64; omega) fun k hk => ?_
  rw [bitOf_wrap _ k hk, bitOf_shl]
  unfold vs
  by_cases h : s ≤ k
  · rw [if_pos h, if_pos (by omega), show ((k : Int) - (s : Int)).toNat = k - s by omega]
  · rw [if_neg h, if_neg (by omega)]
theorem shr_word (a : Int) (la : -9223372036854775808 ≤ a) (ha : a ≤ 9223372036854775807) (s : Nat) (hs : s ≤ 64) : wrap64 (pb (vs a (-(s : Int)) (bitOf a 63)) 64) = a / 2 ^ s := by
  obtain ⟨b0, b1⟩ := bitOf_01 a 63
  refine pb_word _ (vs_01 a _ _ b0 b1) _ (ediv_bd a la ha s).1 (ediv_bd a la ha s).2 fun k hk => ?_
  rw [bitOf_div]
  unfold vs
  by_cases h : s + k < 64
  · rw [if_pos (by omega), show ((k : Int) - -(s : Int)).toNat = s + k by omega]
  · rw [if_neg (by omega)]; exact bitOf_high a la ha (s + k) (by omega)
theorem ushr_word (a : Int) (s : Nat) (hs : s ≤ 64) : wrap64 (pb (vs a (-(s : Int)) 0) 64) = wrap64 (IntKind.u64.wrap a / 2 ^ s) := by
  refine pb_word _ (vs_01 a _ 0 (by decide) (by decide)) _ (by unfold wrap64; omega) (by unfold wrap64; omega) fun k hk => ?_
  have hu : IntKind.u64.wrap a = a % 2 ^ 64 := by rw [IntKind.wrap_u64]; rfl
  rw [bitOf_wrap _ k hk, bitOf_div, hu]
  unfold vs
  by_cases h : s + k < 64
  · rw [if_pos (by omega), show ((k : Int) - -(s : Int)).toNat = s + k by omega, bitOf_mod a 64 (s + k) h]
  · rw [if_neg (by omega)]
    refine bitOf_big _ _ (Int.emod_nonneg _ (by decide)) ?_
    have h1 : a % 2 ^ 64 < 2 ^ 64 := Int.emod_lt_of_pos _ (by decide)
    have h2 : (2 : Int) ^ 64 ≤ 2 ^ (s + k) := by
      have h3 : (2 : Nat) ^ 64 ≤ 2 ^ (s + k) := Nat.pow_le_pow_right (by decide) (by omega)
      have h4 : ((2 ^ 64 : Nat) : Int) ≤ ((2 ^ (s + k) : Nat) : Int) := Int.ofNat_le.2 h3
      simpa [Int.natCast_pow] using h4
    exact Int.lt_of_lt_of_le h1 h2
end Go.Proofs.YtjcmhaaohdmjpaaDoor.word
/- Contracts of package word's conversions (convert, Apply at them, Fits). -/
namespace Go.Proofs.YtjcmhaaohdmjpaaDoor.word
open Go.ChangeShapes Go.WideShapes Go.ChangeAt Go.RowKit
open wrapped
set_option linter.unusedVariables false
/-- What the conversion number k makes of a (10, 11, 12: to 8, 16, 32 bits with a sign; 13, 14, 15: without). -/
def cv (k a : Int) : Int :=
  if k = 10 then (a + 128) % 256 - 128 else if k = 11 then (a + 32768) % 65536 - 32768 else if k = 12 then (a + 2147483648) % 4294967296 - 2147483648
  else if k = 13 then a % 256 else if k = 14 then a % 65536 else a % 4294967296
theorem cv10 (a : Int) : cv 10 a = wrap64 (IntKind.i8.wrap a) := by
  show (a + 128) % 256 - 128 = _
  simp only [IntKind.wrap, IntKind.bits, IntKind.signed]; unfold wrap64; simp; split <;> omega
theorem cv11 (a : Int) : cv 11 a = wrap64 (IntKind.i16.wrap a) := by
  show (a + 32768) % 65536 - 32768 = _
  simp only [IntKind.wrap, IntKind.bits, IntKind.signed]; unfold wrap64; simp; split <;> omega
theorem cv12 (a : Int) : cv 12 a = wrap64 (wrap32 a) := by
  show (a + 2147483648) % 4294967296 - 2147483648 = _
  unfold wrap64 wrap32; omega
theorem cv13 (a : Int) : cv 13 a = a % 256 := rfl
theorem cv14 (a : Int) : cv 14 a = wrap64 (IntKind.u16.wrap a) := by
  show a % 65536 = _
  simp only [IntKind.wrap, IntKind.bits, IntKind.signed]; unfold wrap64; simp; omega
theorem cv15 (a : Int) : cv 15 a = a % 4294967296 := rfl
theorem conv_cases (k : Int) (h : 10 ≤ k) (g : k ≤ 15) : k = 10 ∨ k = 11 ∨ k = 12 ∨ k = 13 ∨ k = 14 ∨ k = 15 := by omega
theorem cv_bd (k a : Int) (h : 10 ≤ k) (g : k ≤ 15) : -2147483648 ≤ cv k a ∧ cv k a ≤ 4294967295 := by
  rcases conv_cases k h g with rfl | rfl | rfl | rfl | rfl | rfl
  · show -2147483648 ≤ (a + 128) % 256 - 128 ∧ (a + 128) % 256 - 128 ≤ 4294967295; omega
  · show -2147483648 ≤ (a + 32768) % 65536 - 32768 ∧ (a + 32768) % 65536 - 32768 ≤ 4294967295; omega
  · show -2147483648 ≤ (a + 2147483648) % 4294967296 - 2147483648 ∧ (a + 2147483648) % 4294967296 - 2147483648 ≤ 4294967295; omega
  · show -2147483648 ≤ a % 256 ∧ a % 256 ≤ 4294967295; omega
  · show -2147483648 ≤ a % 65536 ∧ a % 65536 ≤ 4294967295; omega
  · show -2147483648 ≤ a % 4294967296 ∧ a % 4294967296 ≤ 4294967295; omega
/-- A conversion behind a wider one of the same sign. -/
theorem cv_cv (k l a : Int) (h : 10 ≤ k) (hl : k ≤ l) (g : l ≤ 15) (s : k ≤ 12 ↔ l ≤ 12) : cv k (cv l a) = cv k a ∧ cv l (cv k a) = cv k a := by
  have d10 : ∀ a, cv 10 a = (a + 128) % 256 - 128 := fun _ => rfl
  have d11 : ∀ a, cv 11 a = (a + 32768) % 65536 - 32768 := fun _ => rfl
  have d12 : ∀ a, cv 12 a = (a + 2147483648) % 4294967296 - 2147483648 := fun _ => rfl
  have d13 : ∀ a, cv 13 a = a % 256 := fun _ => rfl
  have d14 : ∀ a, cv 14 a = a % 65536 := fun _ => rfl
  have d15 : ∀ a, cv 15 a = a % 4294967296 := fun _ => rfl
  rcases conv_cases k h (by omega) with rfl | rfl | rfl | rfl | rfl | rfl <;> rcases conv_cases l (by omega) g with rfl | rfl | rfl | rfl | rfl | rfl <;>
    first
    | (exfalso; omega)
    | (simp only [d10, d11, d12, d13, d14, d15]; omega)
theorem conv_op (k a : Int) (w : World) (h : 10 ≤ k) (g : k ≤ 15) : Calls Tryd.prog 55 #[.int .i64 k, .int .i64 a, .int .i64 0] w fun e w' => e = .returned (.tuple #[.int .i64 (cv k a), .int .i64 0]) ∧ w' = w := by
  rcases conv_cases k h g with rfl | rfl | rfl | rfl | rfl | rfl
  · rw [cv10]; exact i8_any a 0 w
  · rw [cv11]; exact i16_any a 0 w
  · rw [cv12]; exact i32_any a 0 w
  · rw [cv13]; exact u8_any a 0 w
  · rw [cv14]; exact u16_any a 0 w
  · rw [cv15]; exact u32_any a 0 w
theorem conv_fn (k a : Int) (w : World) (h : 10 ≤ k) (g : k ≤ 15) : Calls Tryd.prog 70 #[.int .i64 k, .int .i64 a] w fun e w' => e = .returned (.int .i64 (cv k a)) ∧ w' = w := by
  rcases conv_cases k h g with rfl | rfl | rfl | rfl | rfl | rfl
  · rw [cv10]; go_enter Tryd.func70, Tryd.ntmps70; go_wp2; go_ret; exact ⟨rfl, rfl⟩
  · rw [cv11]; go_enter Tryd.func70, Tryd.ntmps70; go_wp2; go_ret; exact ⟨rfl, rfl⟩
  · rw [cv12]; go_enter Tryd.func70, Tryd.ntmps70; go_wp2; go_ret; exact ⟨rfl, rfl⟩
  · rw [cv13]; go_enter Tryd.func70, Tryd.ntmps70; go_wp2; go_ret; exact ⟨rfl, rfl⟩
  · rw [cv14]; go_enter Tryd.func70, Tryd.ntmps70; go_wp2; go_ret; exact ⟨rfl, rfl⟩
  · rw [cv15]; go_enter Tryd.func70, Tryd.ntmps70; go_wp2; go_ret; exact ⟨rfl, rfl⟩
end Go.Proofs.YtjcmhaaohdmjpaaDoor.word
