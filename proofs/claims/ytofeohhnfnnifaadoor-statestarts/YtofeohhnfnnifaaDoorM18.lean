/- What the document's own answers for words are built of (scarabref02's bit, put, converted): contracts. -/
import Derived.Test.YtofeohhnfnnifaaDoorRows
import Derived.Test.YtofeohhnfnnifaaDoorM17
namespace Go.Proofs.YtofeohhnfnnifaaDoor.word
open Go.ChangeShapes Go.WideShapes Go.ChangeAt Go.RowKit
open wrapped
set_option linter.unusedVariables false
theorem or_put (B v : Int) (k : Nat) (hk : k < 64) (h0 : 0 ≤ B) (h1 : B < 2 ^ k) (v0 : 0 ≤ v) (v1 : v ≤ 1) :
    bits .or .u64 B (v * 2 ^ k) = B + v * 2 ^ k ∧ 0 ≤ B + v * 2 ^ k ∧ B + v * 2 ^ k < 2 ^ (k + 1) ∧ v * 2 ^ k < 18446744073709551616 := by
  obtain ⟨b, rfl⟩ := Int.eq_ofNat_of_zero_le h0
  have hb : b < 2 ^ k := by
    have : ((b : Nat) : Int) < ((2 ^ k : Nat) : Int) := by simpa [Int.natCast_pow] using h1
    omega
  have hp : (2 : Nat) ^ k ≤ 2 ^ 63 := Nat.pow_le_pow_right (by decide) (by omega)
  have hp2 : (2 : Nat) ^ 63 = 9223372036854775808 := by decide
  have hv : v = 0 ∨ v = 1 := by omega
  have hpi : ((2 ^ k : Nat) : Int) = 2 ^ k := by simp [Int.natCast_pow]
  have hpos := pos2 k
  rcases hv with rfl | rfl
  · rw [Int.zero_mul]
    have e := u64_or_nat b 0 (by omega) (by omega)
    rw [Nat.or_zero] at e
    refine ⟨by rw [Int.add_zero]; exact e, by omega, ?_, by omega⟩
    rw [Int.pow_succ]; omega
  · rw [Int.one_mul]
    have e := u64_or_nat b (2 ^ k) (by omega) (by omega)
    have e2 : b ||| 2 ^ k = b + 2 ^ k := by
      have := Nat.two_pow_add_eq_or_of_lt hb 1
      rw [Nat.mul_one] at this
      rw [Nat.or_comm, ← this, Nat.add_comm]
    rw [e2, Int.natCast_add, hpi] at e
    refine ⟨e, by omega, ?_, by rw [← hpi]; omega⟩
    rw [Int.pow_succ]; omega
theorem refput_as (x v B : Int) (k : Nat) (hk : k < 64) (h0 : 0 ≤ B) (h1 : B < 2 ^ k) (v0 : 0 ≤ v) (v1 : v ≤ 1) (hx : x = wrap64 B) (w : World) :
    Calls Tryd.prog 76 #[.int .i64 x, .int .i64 k, .int .i64 v] w fun e w' => e = .returned (.int .i64 (wrap64 (B + v * 2 ^ k))) ∧ w' = w := by
  obtain ⟨e1, e2, e3, e4⟩ := or_put B v k hk h0 h1 v0 v1
  have hB : B < 18446744073709551616 := by
    have h2 : (2 : Int) ^ k ≤ 2 ^ 63 := by
      have h3 : (2 : Nat) ^ k ≤ 2 ^ 63 := Nat.pow_le_pow_right (by decide) (by omega)
      have h4 : ((2 ^ k : Nat) : Int) ≤ ((2 ^ 63 : Nat) : Int) := Int.ofNat_le.2 h3
      simpa [Int.natCast_pow] using h4
    rw [show (2 : Int) ^ 63 = 9223372036854775808 from by decide] at h2
    omega
  have hu : IntKind.u64.wrap x = B := by rw [IntKind.wrap_u64, hx]; unfold wrap64; omega
  have hp : 0 ≤ v * 2 ^ k := Int.mul_nonneg v0 (Int.le_of_lt (pos2 k))
  have hw : IntKind.u64.wrap (v * 2 ^ k) = v * 2 ^ k := by rw [IntKind.wrap_u64]; omega
  clear hx h0 h1 e2 e3 e4 hp hB
  go_enter Tryd.func76, Tryd.ntmps76
  go_wp2
  go_ret
  exact ⟨rfl, rfl⟩
/-- What has been put in behind k bits, when the n lowest ones are a's and the others are s times a's bit n - 1. -/
def cb (a : Int) (n : Nat) (s : Int) (k : Nat) : Int := if k ≤ n then a % 2 ^ k else a % 2 ^ n + s * bitOf a (n - 1) * (2 ^ k - 2 ^ n)
theorem cb_low (a : Int) (n : Nat) (s : Int) (k : Nat) (h : k < n) : cb a n s (k + 1) = cb a n s k + bitOf a k * 2 ^ k := by
  unfold cb
  rw [if_pos (by omega), if_pos (by omega), emod_succ, Int.mul_comm (bitOf a k)]
theorem cb_high (a : Int) (n : Nat) (s : Int) (k : Nat) (h : n ≤ k) : cb a n s (k + 1) = cb a n s k + s * bitOf a (n - 1) * 2 ^ k := by
  unfold cb
  rw [if_neg (by omega)]
  by_cases e : k = n
  · subst e
    rw [if_pos (Nat.le_refl _), Int.pow_succ, Int.mul_sub]
    rw [← Int.mul_assoc]; omega
  · rw [if_neg (by omega), Int.pow_succ, Int.mul_sub, Int.mul_sub, ← Int.mul_assoc]; omega
theorem cb_bd (a : Int) (n : Nat) (s : Int) (h0 : 0 ≤ s) (h1 : s ≤ 1) (k : Nat) : 0 ≤ cb a n s k ∧ cb a n s k < 2 ^ k := by
  induction k with
  | zero => unfold cb; rw [if_pos (Nat.zero_le _)]; simp
  | succ k ih =>
    have hp := pos2 k
    rw [Int.pow_succ]
    by_cases h : k < n
    · rw [cb_low a n s k h]
      have hb := bitOf_01 a k
      have hv : bitOf a k = 0 ∨ bitOf a k = 1 := by omega
      rcases hv with e | e <;> rw [e] <;> omega
    · rw [cb_high a n s k (by omega)]
      have hb := bitOf_01 a (n - 1)
      have hv : s * bitOf a (n - 1) = 0 ∨ s * bitOf a (n - 1) = 1 := by
        have hs : s = 0 ∨ s = 1 := by omega
        have hc : bitOf a (n - 1) = 0 ∨ bitOf a (n - 1) = 1 := by omega
        rcases hs with rfl | rfl <;> rcases hc with e | e <;> rw [e] <;> simp
      rcases hv with e | e <;> rw [e] <;> omega
set_option maxHeartbeats 1000000 in
theorem refconv_any (a : Int) (n : Nat) (t : Bool) (hn : 1 ≤ n) (hn2 : n ≤ 64) (w : World) :
    Calls Tryd.prog 78 #[.int .i64 a, .int .i64 n, .bool t] w fun e w' => e = .returned (.int .i64 (wrap64 (cb a n (if t then 1 else 0) 64))) ∧ w' = w := by
  have hs0 : 0 ≤ (if t then (1 : Int) else 0) := by cases t <;> decide
  have hs1 : (if t then (1 : Int) else 0) ≤ 1 := by cases t <;> decide
  obtain ⟨s, hs⟩ : ∃ s : Int, Hid ((if t then (1 : Int) else 0) = s) := ⟨_, rfl⟩
  rw [hs.out] at hs0 hs1 ⊢
  go_enter Tryd.func78, Tryd.ntmps78
  go_wp2
  go_loop [7, 8] (fun r i => ∃ (k : Nat) (x : Int), k ≤ 64 ∧ i = .int .i64 k ∧ r = .int .i64 x ∧ Hid (x = wrap64 (cb a n s k))) (fun _ i => 64 - (intOf i).toNat)
  case atStart => exact ⟨0, 0, Nat.zero_le _, rfl, rfl, by show (0 : Int) = wrap64 (cb a n s 0); unfold cb; rw [if_pos (Nat.zero_le _)]; simp [wrap64]⟩
  case round =>
    obtain ⟨k, x, hk, rfl, rfl, hx⟩ := hrel
    by_cases hlt : k < 64
    · have hbd := cb_bd a n s hs0 hs1 k
      by_cases hkn : k < n
      · have hb := bitOf_01 a k
        have hput := refput_as x (bitOf a k) (cb a n s k) k hlt hbd.1 hbd.2 hb.1 hb.2 hx.out
        rw [← cb_low a n s k hkn] at hput
        clear hbd
        go_wp2_with (first | (go_at_call 75; refine (refbit_any _ _ hlt _).mono ?_; rintro e w' ⟨rfl, rfl⟩) | (go_at_call 76; with_reducible refine (hput _).mono ?_; rintro e w' ⟨rfl, rfl⟩))
        go_round
        case rel => exact ⟨k + 1, _, by omega, by go_num, rfl, rfl⟩
        case measure => simp [intOf]; omega
      · cases t with
        | true =>
          have e1 : s = 1 := hs.out.symm
          have hb := bitOf_01 a (n - 1)
          have hput := refput_as x (bitOf a (n - 1)) (cb a n s k) k hlt hbd.1 hbd.2 hb.1 hb.2 hx.out
          have e2 := cb_high a n s k (by omega)
          rw [e1, Int.one_mul] at e2
          rw [e1] at hput
          rw [← e2] at hput
          have hbit : ∀ w, Calls Tryd.prog 75 #[.int .i64 a, .int .i64 ((n : Int) - 1)] w fun e w' => e = .returned (.int .i64 (bitOf a (n - 1))) ∧ w' = w := by
            intro w
            have h := refbit_any a (n - 1) (by omega) w
            rw [show ((n - 1 : Nat) : Int) = (n : Int) - 1 by omega] at h
            exact h
          have E1 : Hid (s = 1) := e1
          clear hbd e2 e1 hs hs0 hs1
          go_wp2_with (first | (go_at_call 75; refine (hbit _).mono ?_; rintro e w' ⟨rfl, rfl⟩) | (go_at_call 76; with_reducible refine (hput _).mono ?_; rintro e w' ⟨rfl, rfl⟩))
          go_round
          case rel => exact ⟨k + 1, _, by omega, by go_num, rfl, by rw [E1.out]; rfl⟩
          case measure => simp [intOf]; omega
        | false =>
          have e1 : s = 0 := hs.out.symm
          have hput := refput_as x 0 (cb a n s k) k hlt hbd.1 hbd.2 (by omega) (by omega) hx.out
          have e2 := cb_high a n s k (by omega)
          rw [e1, Int.zero_mul] at e2
          rw [e1] at hput
          rw [← e2] at hput
          have E1 : Hid (s = 0) := e1
          clear hbd e2 e1 hs hs0 hs1
          go_wp2_with (go_at_call 76; with_reducible refine (hput _).mono ?_; rintro e w' ⟨rfl, rfl⟩)
          go_round
          case rel => exact ⟨k + 1, _, by omega, by go_num, rfl, by rw [E1.out]; rfl⟩
          case measure => simp [intOf]; omega
    · go_wp2
      go_ret
      have : k = 64 := by omega
      subst this
      exact ⟨ret_int hx.out, rfl⟩
end Go.Proofs.YtofeohhnfnnifaaDoor.word
/- Words put together bit by bit, on plain numbers: what has been put in behind k bits; the bits of what the operations make. -/
namespace Go.Proofs.YtofeohhnfnnifaaDoor.word
open Go.ChangeShapes Go.WideShapes Go.ChangeAt Go.RowKit
open wrapped
set_option linter.unusedVariables false
/-- What has been put in behind k bits. -/
def pb (v : Nat → Int) : Nat → Int
  | 0 => 0
  | k + 1 => pb v k + v k * 2 ^ k
theorem pb_bd (v : Nat → Int) (hv : ∀ k, 0 ≤ v k ∧ v k ≤ 1) (k : Nat) : 0 ≤ pb v k ∧ pb v k < 2 ^ k := by
  induction k with
  | zero => exact ⟨Int.le_refl _, (by decide : (0 : Int) < 1)⟩
  | succ k ih =>
    obtain ⟨h0, h1⟩ := hv k
    have hp := pos2 k
    show 0 ≤ pb v k + v k * 2 ^ k ∧ pb v k + v k * 2 ^ k < 2 ^ (k + 1)
    rw [Int.pow_succ]
    rcases (by omega : v k = 0 ∨ v k = 1) with h | h <;> rw [h] <;> omega
theorem pb_bit (v : Nat → Int) (hv : ∀ k, 0 ≤ v k ∧ v k ≤ 1) (n k : Nat) (h : k < n) : bitOf (pb v n) k = v k := by
  induction n with
  | zero => omega
  | succ n ih =>
    show bitOf (pb v n + v n * 2 ^ n) k = v k
    by_cases hk : k < n
    · rw [Int.mul_comm, bitOf_add _ _ n k hk]; exact ih hk
    · have hkn : k = n := by omega
      subst hkn
      obtain ⟨b0, b1⟩ := pb_bd v hv k
      obtain ⟨v0, v1⟩ := hv k
      have hp := pos2 k
      unfold bitOf
      rw [Int.add_mul_ediv_right _ _ (by omega), Int.ediv_eq_zero_of_lt b0 b1]
      omega
theorem pb_word (v : Nat → Int) (hv : ∀ k, 0 ≤ v k ∧ v k ≤ 1) (X : Int) (h : -9223372036854775808 ≤ X) (g : X ≤ 9223372036854775807) (hb : ∀ k, k < 64 → bitOf X k = v k) : wrap64 (pb v 64) = X := by
  refine word_ext _ _ ?_ ?_ h g fun k hk => ?_
  · unfold wrap64; omega
  · unfold wrap64; omega
  · rw [bitOf_wrap _ k hk, pb_bit v hv 64 k hk, hb k hk]
theorem bitOf_nat (n k : Nat) : bitOf (n : Int) k = if n.testBit k then 1 else 0 := by
  unfold bitOf
  rw [Nat.testBit_eq_decide_div_mod_eq, show ((2 : Int) ^ k) = ((2 ^ k : Nat) : Int) from by push_cast; rfl, ← Int.natCast_ediv]
  generalize n / 2 ^ k = d
  by_cases h : d % 2 = 1
  · simp [h]; omega
  · simp [h]; omega
theorem bitOf_bv (v : BitVec 64) (k : Nat) (hk : k < 64) : bitOf v.toInt k = if v.getLsbD k then 1 else 0 := by
  have hl := v.isLt
  have e : v.toInt = ((v.toNat : Nat) : Int) + 2 ^ 64 * (if 2 * v.toNat < 2 ^ 64 then 0 else -1) := by
    rw [BitVec.toInt_eq_toNat_cond]
    split <;> omega
  rw [e, bitOf_add _ _ 64 k hk, bitOf_nat]
  rfl
theorem bitOf_self (a : Int) (h : -9223372036854775808 ≤ a) (g : a ≤ 9223372036854775807) (k : Nat) (hk : k < 64) : bitOf a k = if (BitVec.ofInt 64 a).getLsbD k then 1 else 0 := by
  rw [← bitOf_bv _ k hk, ← wrap64_toInt, wrap64_id a h g]
theorem toInt_bd (v : BitVec 64) : -9223372036854775808 ≤ v.toInt ∧ v.toInt ≤ 9223372036854775807 := by
  have hl := v.isLt
  rw [BitVec.toInt_eq_toNat_cond]
  split <;> omega
section
variable (a b : Int) (la : -9223372036854775808 ≤ a) (ha : a ≤ 9223372036854775807) (lb : -9223372036854775808 ≤ b) (hb : b ≤ 9223372036854775807)
include la ha lb hb
theorem and_bit (k : Nat) (hk : k < 64) : bitOf (bits .and .i64 a b) k = if bitOf a k + bitOf b k = 2 then 1 else 0 := by
  rw [bits_and_eq, bitOf_bv _ k hk, BitVec.getLsbD_and, bitOf_self a la ha k hk, bitOf_self b lb hb k hk]
  cases (BitVec.ofInt 64 a).getLsbD k <;> cases (BitVec.ofInt 64 b).getLsbD k <;> rfl
theorem or_bits (k : Nat) (hk : k < 64) : bitOf (bits .or .i64 a b) k = if 0 < bitOf a k + bitOf b k then 1 else 0 := by
  rw [bits_or_eq, bitOf_bv _ k hk, BitVec.getLsbD_or, bitOf_self a la ha k hk, bitOf_self b lb hb k hk]
  cases (BitVec.ofInt 64 a).getLsbD k <;> cases (BitVec.ofInt 64 b).getLsbD k <;> rfl
theorem xor_bits (k : Nat) (hk : k < 64) : bitOf (bits .xor .i64 a b) k = if bitOf a k + bitOf b k = 1 then 1 else 0 := by
  rw [bits_xor_eq, bitOf_bv _ k hk, BitVec.getLsbD_xor, bitOf_self a la ha k hk, bitOf_self b lb hb k hk]
  cases (BitVec.ofInt 64 a).getLsbD k <;> cases (BitVec.ofInt 64 b).getLsbD k <;> rfl
theorem clear_bits (k : Nat) (hk : k < 64) : bitOf (bits .and .i64 a (bits .xor .i64 (-1) b)) k = if bitOf a k = 1 ∧ bitOf b k = 0 then 1 else 0 := by
  rw [xor_not b lb hb, and_bit a (-1 - b) la ha (by omega) (by omega) k hk, bitOf_not]
  have h1 := bitOf_01 a k
  have h2 := bitOf_01 b k
  rcases (by omega : bitOf a k = 0 ∨ bitOf a k = 1) with h | h <;> rcases (by omega : bitOf b k = 0 ∨ bitOf b k = 1) with g | g <;> rw [h, g] <;> rfl
end
theorem bitOf_high (a : Int) (h : -9223372036854775808 ≤ a) (g : a ≤ 9223372036854775807) (k : Nat) (hk : 63 ≤ k) : bitOf a k = bitOf a 63 := by
  have e : ∀ j, 63 ≤ j → a / 2 ^ j = if a < 0 then -1 else 0 := fun j hj => by
    have h2 : (9223372036854775808 : Int) ≤ 2 ^ j := by
      have h3 : (2 : Nat) ^ 63 ≤ 2 ^ j := Nat.pow_le_pow_right (by decide) hj
      have h4 : ((2 ^ 63 : Nat) : Int) ≤ ((2 ^ j : Nat) : Int) := Int.ofNat_le.2 h3
      rw [show ((2 ^ 63 : Nat) : Int) = 9223372036854775808 from by decide] at h4
      simpa [Int.natCast_pow] using h4
    generalize (2 : Int) ^ j = P at *
    split
    · have e1 : a = P * (-1) + (a + P) := by omega
      rw [e1, Int.mul_add_ediv_left _ _ (by omega), Int.ediv_eq_zero_of_lt (by omega) (by omega)]; omega
    · exact Int.ediv_eq_zero_of_lt (by omega) (by omega)
  unfold bitOf
  rw [e k hk, e 63 (Nat.le_refl _)]
theorem bitOf_shl (a : Int) (s k : Nat) : bitOf (a * 2 ^ s) k = if s ≤ k then bitOf a (k - s) else 0 := by
  by_cases h : s ≤ k
  · rw [if_pos h]
    have e := bitOf_div (a * 2 ^ s) s (k - s)
    rw [Int.mul_ediv_cancel _ (Int.ne_of_gt (pos2 s)), show s + (k - s) = k by omega] at e
    exact e.symm
  · rw [if_neg h]
    have e := bitOf_add 0 a s k (by omega)
    rw [Int.zero_add, Int.mul_comm] at e
    rw [e]
    unfold bitOf; simp
theorem bitOf_big (x : Int) (k : Nat) (h0 : 0 ≤ x) (h1 : x < 2 ^ k) : bitOf x k = 0 := by
  unfold bitOf; rw [Int.ediv_eq_zero_of_lt h0 h1]; rfl
theorem bitOf_rot (x : Int) (s k : Nat) (h0 : 0 ≤ x) (h1 : x < 18446744073709551616) (hs : s < 64) (hk : k < 64) : bitOf (rotN x s) k = bitOf x (if s ≤ k then k - s else k + 64 - s) := by
  by_cases h : s ≤ k
  · rw [if_pos h]
    have e := bitOf_div (rotN x s) s (k - s)
    rw [rot_div x s h0 h1 (by omega), show s + (k - s) = k by omega, bitOf_mod x (64 - s) (k - s) (by omega)] at e
    exact e.symm
  · rw [if_neg h]
    have e := bitOf_mod (rotN x s) s k (by omega)
    rw [rot_mod x s h0 h1 (by omega), bitOf_div, show 64 - s + k = k + 64 - s by omega] at e
    exact e.symm
end Go.Proofs.YtofeohhnfnnifaaDoor.word
