/- Words put together bit by bit, on plain numbers: what has been put in behind k bits; the bits of what the operations make. -/
import Derived.Test.YtjcmhaaohdmjpaaDoorM12
import Derived.Test.YtjcmhaaohdmjpaaDoorRows
import Derived.WalkKit
import Derived.ProofKit
import Derived.OpenShut
import Derived.WalkSpells
import Derived.WalkLawsBesides
import Derived.Test.YtjcmhaaohdmjpaaDoorM11
namespace Go.Proofs.YtjcmhaaohdmjpaaDoor.word
open Go.ChangeShapes Go.WideShapes Go.ChangeAt Go.RowKit
open wrapped
set_option linter.unusedVariables false
/-- What has been put in behind k bits. -/
def pb (v : Nat → Int) : Nat → Int
  | 0 => 0
  | k + 1 => pb v k + v k * 2 ^ k
theorem pb_bd (v : Nat → Int) (hv : ∀ k, 0 ≤ v k ∧ v k ≤ 1) (k : Nat) : 0 ≤ pb v k ∧ pb v k < 2 ^ k := by
  induction k with
  | zero => exact ⟨Int.le_refl _, (by decide : (0 : Int) < 1)⟩
  | succ k ih =>
    obtain ⟨h0, h1⟩ := hv k
    have hp := pos2 k
    show 0 ≤ pb v k + v k * 2 ^ k ∧ pb v k + v k * 2 ^ k < 2 ^ (k + 1)
    rw [Int.pow_succ]
    rcases (by omega : v k = 0 ∨ v k = 1) with h | h <;> rw [h] <;> omega
theorem pb_bit (v : Nat → Int) (hv : ∀ k, 0 ≤ v k ∧ v k ≤ 1) (n k : Nat) (h : k < n) : bitOf (pb v n) k = v k := by
  induction n with
  | zero => omega
  | succ n ih =>
    show bitOf (pb v n + v n * 2 ^ n) k = v k
    by_cases hk : k < n
    · rw [Int.mul_comm, bitOf_add _ _ n k hk]; exact ih hk
    · have hkn : k = n := by omega
      subst hkn
      obtain ⟨b0, b1⟩ := pb_bd v hv k
      obtain ⟨v0, v1⟩ := hv k
      have hp := pos2 k
      unfold bitOf
      rw [Int.add_mul_ediv_right _ _ (by omega), Int.ediv_eq_zero_of_lt b0 b1]
      omega
theorem pb_word (v : Nat → Int) (hv : ∀ k, 0 ≤ v k ∧ v k ≤ 1) (X : Int) (h : -9223372036854775808 ≤ X) (g : X ≤ 9223372036854775807) (hb : ∀ k, k < 64 → bitOf X k = v k) : wrap64 (pb v 64) = X := by
  refine word_ext _ _ ?_ ?_ h g fun k hk => ?_
  · unfold wrap64; omega
  · unfold wrap64; omega
  · rw [bitOf_wrap _ k hk, pb_bit v hv 64 k hk, hb k hk]
theorem bitOf_nat (n k : Nat) : bitOf (n : Int) k = if n.testBit k then 1 else 0 := by
  unfold bitOf
  rw [Nat.testBit_eq_decide_div_mod_eq, show ((2 : Int) ^ k) = ((2 ^ k : Nat) : Int) from by push_cast; rfl, ← Int.natCast_ediv]
  generalize n / 2 ^ k = d
  by_cases h : d % 2 = 1
  · simp [h]; omega
  · simp [h]; omega
theorem bitOf_bv (v : BitVec 64) (k : Nat) (hk : k < 64) : bitOf v.toInt k = if v.getLsbD k then 1 else 0 := by
  have hl := v.isLt
  have e : v.toInt = ((v.toNat : Nat) : Int) + 2 ^ 64 * (if 2 * v.toNat < 2 ^ 64 then 0 else -1) := by
    rw [BitVec.toInt_eq_toNat_cond]
    split <;> omega
  rw [e, bitOf_add _ _ 64 k hk, bitOf_nat]
  rfl
theorem bitOf_self (a : Int) (h : -9223372036854775808 ≤ a) (g : a ≤ 9223372036854775807) (k : Nat) (hk : k < 64) : bitOf a k = if (BitVec.ofInt 64 a).getLsbD k then 1 else 0 := by
  rw [← bitOf_bv _ k hk, ← wrap64_toInt, wrap64_id a h g]
theorem toInt_bd (v : BitVec 64) : -9223372036854775808 ≤ v.toInt ∧ v.toInt ≤ 9223372036854775807 := by
  have hl := v.isLt
  rw [BitVec.toInt_eq_toNat_cond]
  split <;> omega
section
variable (a b : Int) (la : -9223372036854775808 ≤ a) (ha : a ≤ 9223372036854775807) (lb : -9223372036854775808 ≤ b) (hb : b ≤ 9223372036854775807)
include la ha lb hb
theorem and_bit (k : Nat) (hk : k < 64) : bitOf (bits .and .i64 a b) k = if bitOf a k + bitOf b k = 2 then 1 else 0 := by
  rw [bits_and_eq, bitOf_bv _ k hk, BitVec.getLsbD_and, bitOf_self a la ha k hk, bitOf_self b lb hb k hk]
  cases (BitVec.ofInt 64 a).getLsbD k <;> cases (BitVec.ofInt 64 b).getLsbD k <;> rfl
theorem or_bits (k : Nat) (hk : k < 64) : bitOf (bits .or .i64 a b) k = if 0 < bitOf a k + bitOf b k then 1 else 0 := by
  rw [bits_or_eq, bitOf_bv _ k hk, BitVec.getLsbD_or, bitOf_self a la ha k hk, bitOf_self b lb hb k hk]
  cases (BitVec.ofInt 64 a).getLsbD k <;> cases (BitVec.ofInt 64 b).getLsbD k <;> rfl
theorem xor_bits (k : Nat) (hk : k < 64) : bitOf (bits .xor .i64 a b) k = if bitOf a k + bitOf b k = 1 then 1 else 0 := by
  rw [bits_xor_eq, bitOf_bv _ k hk, BitVec.getLsbD_xor, bitOf_self a la ha k hk, bitOf_self b lb hb k hk]
  cases (BitVec.ofInt 64 a).getLsbD k <;> cases (BitVec.ofInt 64 b).getLsbD k <;> rfl
theorem clear_bits (k : Nat) (hk : k < 64) : bitOf (bits .and .i64 a (bits .xor .i64 (-1) b)) k = if bitOf a k = 1 ∧ bitOf b k = 0 then 1 else 0 := by
  rw [xor_not b lb hb, and_bit a (-1 - b) la ha (by omega) (by omega) k hk, bitOf_not]
  have h1 := bitOf_01 a k
  have h2 := bitOf_01 b k
  rcases (by omega : bitOf a k = 0 ∨ bitOf a k = 1) with h | h <;> rcases (by omega : bitOf b k = 0 ∨ bitOf b k = 1) with g | g <;> rw [h, g] <;> rfl
end
theorem bitOf_high (a : Int) (h : -9223372036854775808 ≤ a) (g : a ≤ 9223372036854775807) (k : Nat) (hk : 63 ≤ k) : bitOf a k = bitOf a 63 := by
  have e : ∀ j, 63 ≤ j → a / 2 ^ j = if a < 0 then -1 else 0 := fun j hj => by
    have h2 : (9223372036854775808 : Int) ≤ 2 ^ j := by
      have h3 : (2 : Nat) ^ 63 ≤ 2 ^ j := Nat.pow_le_pow_right (by decide) hj
      have h4 : ((2 ^ 63 : Nat) : Int) ≤ ((2 ^ j : Nat) : Int) := Int.ofNat_le.2 h3
      rw [show ((2 ^ 63 : Nat) : Int) = 9223372036854775808 from by decide] at h4
      simpa [Int.natCast_pow] using h4
    generalize (2 : Int) ^ j = P at *
    split
    · have e1 : a = P * (-1) + (a + P) := by omega
      rw [e1, Int.mul_add_ediv_left _ _ (by omega), Int.ediv_eq_zero_of_lt (by omega) (by omega)]; omega
    · exact Int.ediv_eq_zero_of_lt (by omega) (by omega)
  unfold bitOf
  rw [e k hk, e 63 (Nat.le_refl _)]
theorem bitOf_shl (a : Int) (s k : Nat) : bitOf (a * 2 ^ s) k = if s ≤ k then bitOf a (k - s) else 0 := by
  by_cases h : s ≤ k
  · rw [if_pos h]
    have e := bitOf_div (a * 2 ^ s) s (k - s)
    rw [Int.mul_ediv_cancel _ (Int.ne_of_gt (pos2 s)), show s + (k - s) = k by omega] at e
    exact e.symm
  · rw [if_neg h]
    have e := bitOf_add 0 a s k (by omega)
    rw [Int.zero_add, Int.mul_comm] at e
    rw [e]
    unfold bitOf; simp
theorem bitOf_big (x : Int) (k : Nat) (h0 : 0 ≤ x) (h1 : x < 2 ^ k) : bitOf x k = 0 := by
  unfold bitOf; rw [Int.ediv_eq_zero_of_lt h0 h1]; rfl
theorem bitOf_rot (x : Int) (s k : Nat) (h0 : 0 ≤ x) (h1 : x < 18446744073709551616) (hs : s < 64) (hk : k < 64) : bitOf (rotN x s) k = bitOf x (if s ≤ k then k - s else k + 64 - s) := by
  by_cases h : s ≤ k
  · rw [if_pos h]
    have e := bitOf_div (rotN x s) s (k - s)
    rw [rot_div x s h0 h1 (by omega), show s + (k - s) = k by omega, bitOf_mod x (64 - s) (k - s) (by omega)] at e
    exact e.symm
  · rw [if_neg h]
    have e := bitOf_mod (rotN x s) s k (by omega)
    rw [rot_mod x s h0 h1 (by omega), bitOf_div, show 64 - s + k = k + 64 - s by omega] at e
    exact e.symm
end Go.Proofs.YtjcmhaaohdmjpaaDoor.word
/- Contracts of package word's operations, one a Go function and operation: what each answers, in a world that stays as it is. -/
namespace Go.Proofs.YtjcmhaaohdmjpaaDoor.word
open Go.ChangeShapes Go.WideShapes Go.ChangeAt Go.RowKit
set_option linter.unusedVariables false

theorem neg_any (a b : Int) (w : World) : Calls Tryd.prog 55 #[.int .i64 1, .int .i64 a, .int .i64 b] w fun e w' => e = .returned (.tuple #[.int .i64 (wrap64 (-a)), .int .i64 0]) ∧ w' = w := by
  go_enter Tryd.func55, Tryd.ntmps55
  go_wp2
  go_ret2
  exact ⟨rfl, rfl⟩

theorem not_any (a b : Int) (w : World) : Calls Tryd.prog 55 #[.int .i64 2, .int .i64 a, .int .i64 b] w fun e w' => e = .returned (.tuple #[.int .i64 (bits BinOp.xor IntKind.i64 (-1) a), .int .i64 0]) ∧ w' = w := by
  go_enter Tryd.func55, Tryd.ntmps55
  go_wp2
  go_ret2
  exact ⟨rfl, rfl⟩

theorem i8_any (a b : Int) (w : World) : Calls Tryd.prog 55 #[.int .i64 10, .int .i64 a, .int .i64 b] w fun e w' => e = .returned (.tuple #[.int .i64 (wrap64 (IntKind.i8.wrap a)), .int .i64 0]) ∧ w' = w := by
  go_enter Tryd.func55, Tryd.ntmps55
  go_wp2
  go_ret2
  exact ⟨rfl, rfl⟩

theorem i16_any (a b : Int) (w : World) : Calls Tryd.prog 55 #[.int .i64 11, .int .i64 a, .int .i64 b] w fun e w' => e = .returned (.tuple #[.int .i64 (wrap64 (IntKind.i16.wrap a)), .int .i64 0]) ∧ w' = w := by
  go_enter Tryd.func55, Tryd.ntmps55
  go_wp2
  go_ret2
  exact ⟨rfl, rfl⟩

theorem i32_any (a b : Int) (w : World) : Calls Tryd.prog 55 #[.int .i64 12, .int .i64 a, .int .i64 b] w fun e w' => e = .returned (.tuple #[.int .i64 (wrap64 (wrap32 a)), .int .i64 0]) ∧ w' = w := by
  go_enter Tryd.func55, Tryd.ntmps55
  go_wp2
  go_ret2
  exact ⟨rfl, rfl⟩

theorem u8_any (a b : Int) (w : World) : Calls Tryd.prog 55 #[.int .i64 13, .int .i64 a, .int .i64 b] w fun e w' => e = .returned (.tuple #[.int .i64 (a % 256), .int .i64 0]) ∧ w' = w := by
  go_enter Tryd.func55, Tryd.ntmps55
  go_wp2
  go_ret2
  exact ⟨rfl, rfl⟩

theorem u16_any (a b : Int) (w : World) : Calls Tryd.prog 55 #[.int .i64 14, .int .i64 a, .int .i64 b] w fun e w' => e = .returned (.tuple #[.int .i64 (wrap64 (IntKind.u16.wrap a)), .int .i64 0]) ∧ w' = w := by
  go_enter Tryd.func55, Tryd.ntmps55
  go_wp2
  go_ret2
  exact ⟨rfl, rfl⟩

theorem u32_any (a b : Int) (w : World) : Calls Tryd.prog 55 #[.int .i64 15, .int .i64 a, .int .i64 b] w fun e w' => e = .returned (.tuple #[.int .i64 (a % 4294967296), .int .i64 0]) ∧ w' = w := by
  go_enter Tryd.func55, Tryd.ntmps55
  go_wp2
  go_ret2
  exact ⟨rfl, rfl⟩

theorem add_any (a b : Int) (w : World) : Calls Tryd.prog 55 #[.int .i64 16, .int .i64 a, .int .i64 b] w fun e w' => e = .returned (.tuple #[.int .i64 (wrap64 (a + b)), .int .i64 0]) ∧ w' = w := by
  go_enter Tryd.func55, Tryd.ntmps55
  go_wp2
  go_ret2
  exact ⟨rfl, rfl⟩

theorem sub_any (a b : Int) (w : World) : Calls Tryd.prog 55 #[.int .i64 17, .int .i64 a, .int .i64 b] w fun e w' => e = .returned (.tuple #[.int .i64 (wrap64 (a + wrap64 (-b))), .int .i64 0]) ∧ w' = w := by
  go_enter Tryd.func55, Tryd.ntmps55
  go_wp2
  go_ret2
  exact ⟨rfl, rfl⟩

theorem mul_any (a b : Int) (w : World) : Calls Tryd.prog 55 #[.int .i64 18, .int .i64 a, .int .i64 b] w fun e w' => e = .returned (.tuple #[.int .i64 (wrap64 (a * b)), .int .i64 0]) ∧ w' = w := by
  go_enter Tryd.func55, Tryd.ntmps55
  go_wp2
  go_ret2
  exact ⟨rfl, rfl⟩

theorem div_zero (a b : Int) (w : World) (h : b = 0) : Calls Tryd.prog 55 #[.int .i64 19, .int .i64 a, .int .i64 b] w fun e w' => e = .returned (.tuple #[.int .i64 (0), .int .i64 20]) ∧ w' = w := by
  subst h
  go_enter Tryd.func55, Tryd.ntmps55
  go_wp2
  go_ret2
  exact ⟨rfl, rfl⟩

theorem div_any (a b : Int) (w : World) (h : (b == 0) = false) (h2 : ¬ b = 0) : Calls Tryd.prog 55 #[.int .i64 19, .int .i64 a, .int .i64 b] w fun e w' => e = .returned (.tuple #[.int .i64 (wrap64 (a.tdiv b)), .int .i64 0]) ∧ w' = w := by
  go_enter Tryd.func55, Tryd.ntmps55
  go_wp2
  go_ret2
  exact ⟨rfl, rfl⟩

theorem rem_zero (a b : Int) (w : World) (h : b = 0) : Calls Tryd.prog 55 #[.int .i64 20, .int .i64 a, .int .i64 b] w fun e w' => e = .returned (.tuple #[.int .i64 (0), .int .i64 20]) ∧ w' = w := by
  subst h
  go_enter Tryd.func55, Tryd.ntmps55
  go_wp2
  go_ret2
  exact ⟨rfl, rfl⟩

theorem rem_any (a b : Int) (w : World) (h : (b == 0) = false) (h2 : ¬ b = 0) : Calls Tryd.prog 55 #[.int .i64 20, .int .i64 a, .int .i64 b] w fun e w' => e = .returned (.tuple #[.int .i64 (a.tmod b), .int .i64 0]) ∧ w' = w := by
  go_enter Tryd.func55, Tryd.ntmps55
  go_wp2
  go_ret2
  exact ⟨rfl, rfl⟩

theorem div_as (a b q : Int) (w : World) (h : (b == 0) = false) (h2 : ¬ b = 0) (he : Hid (wrap64 (a.tdiv b) = q)) : Calls Tryd.prog 55 #[.int .i64 19, .int .i64 a, .int .i64 b] w fun e w' => e = .returned (.tuple #[.int .i64 q, .int .i64 0]) ∧ w' = w :=
  (div_any a b w h h2).mono fun e w' ⟨h1, h3⟩ => ⟨by rw [h1, he.out], h3⟩
theorem rem_as (a b r : Int) (w : World) (h : (b == 0) = false) (h2 : ¬ b = 0) (he : Hid (a.tmod b = r)) : Calls Tryd.prog 55 #[.int .i64 20, .int .i64 a, .int .i64 b] w fun e w' => e = .returned (.tuple #[.int .i64 r, .int .i64 0]) ∧ w' = w :=
  (rem_any a b w h h2).mono fun e w' ⟨h1, h3⟩ => ⟨by rw [h1, he.out], h3⟩

end Go.Proofs.YtjcmhaaohdmjpaaDoor.word
/- Contracts of package word's functions that go through bits: bit, ones, lead, flip. -/
namespace Go.Proofs.YtjcmhaaohdmjpaaDoor.word
open Go.ChangeShapes Go.WideShapes Go.ChangeAt Go.RowKit
open wrapped
set_option linter.unusedVariables false

theorem bit_any (a : Int) (k : Nat) (hk : k < 64) (w : World) : Calls Tryd.prog 92 #[.int .i64 a, .int .i64 k] w fun e w' => e = .returned (.int .i64 (bitOf a k)) ∧ w' = w := by
  go_enter Tryd.func92, Tryd.ntmps92
  go_wp2
  go_ret
  refine ⟨ret_int ?_, rfl⟩
  rw [bits_one]
  rfl
theorem ones_any (a : Int) (w : World) : Calls Tryd.prog 86 #[.int .i64 a] w fun e w' => e = .returned (.int .i64 (onesN a 64)) ∧ w' = w := by
  go_enter Tryd.func86, Tryd.ntmps86
  go_wp2
  go_loop [3, 5] (fun n i => ∃ k : Nat, k ≤ 64 ∧ i = .int .i64 k ∧ n = .int .i64 (onesN a k)) (fun _ i => 64 - (intOf i).toNat)
  case atStart => exact ⟨0, Nat.zero_le _, rfl, rfl⟩
  case round =>
    obtain ⟨k, hk, rfl, rfl⟩ := hrel
    have hd := onesN_bd a k
    have hb := bitOf_01 a k
    by_cases hlt : k < 64
    · go_wp2_with (go_at_call 92; refine (bit_any _ _ hlt _).mono ?_; rintro e w' ⟨rfl, rfl⟩)
      go_round
      case rel => exact ⟨k + 1, by omega, by go_num, rfl⟩
      case measure => simp [intOf]; omega
    · go_wp2
      go_ret
      have : k = 64 := by omega
      subst this
      exact ⟨rfl, rfl⟩
theorem flip_any (a : Int) (w : World) : Calls Tryd.prog 87 #[.int .i64 a] w fun e w' => e = .returned (.int .i64 (wrap64 (flipN a 64))) ∧ w' = w := by
  go_enter Tryd.func87, Tryd.ntmps87
  go_wp2
  go_loop [3, 5] (fun n i => ∃ k : Nat, k ≤ 64 ∧ i = .int .i64 k ∧ ∃ x : Int, n = .int .i64 x ∧ Hid (x = wrap64 (flipN a k))) (fun _ i => 64 - (intOf i).toNat)
  case atStart => exact ⟨0, Nat.zero_le _, rfl, 0, rfl, by show (0 : Int) = wrap64 (flipN a 0); simp [flipN, wrap64]⟩
  case round =>
    obtain ⟨k, hk, rfl, x, rfl, hx⟩ := hrel
    have hb := bitOf_01 a k
    by_cases hlt : k < 64
    · go_wp2_with (go_at_call 92; refine (bit_any _ _ hlt _).mono ?_; rintro e w' ⟨rfl, rfl⟩)
      go_round
      case rel =>
        refine ⟨k + 1, by omega, by go_num, _, rfl, ?_⟩
        show _ = wrap64 (flipN a (k + 1))
        simp only [flipN]
        have h2 := or_bit x (bitOf a k) hb.1 hb.2
        have h3 : wrap64 (x * 2 + bitOf a k) = wrap64 (flipN a k * 2 + bitOf a k) := by
          rw [hx.out]; unfold wrap64; omega
        rw [← h3, ← h2]
      case measure => simp [intOf]; omega
    · go_wp2
      go_ret
      have : k = 64 := by omega
      subst this
      exact ⟨ret_int hx.out, rfl⟩
/-- n is the number of bits above the highest 1. -/
def IsLead (a : Int) (n : Nat) : Prop := n ≤ 64 ∧ (∀ j, j < n → bitOf a (63 - j) = 0) ∧ (n < 64 → bitOf a (63 - n) = 1)
theorem lead_any (a : Int) (w : World) : Calls Tryd.prog 88 #[.int .i64 a] w fun e w' => ∃ n : Nat, IsLead a n ∧ e = .returned (.int .i64 n) ∧ w' = w := by
  go_enter Tryd.func88, Tryd.ntmps88
  go_wp2
  go_loop [4] (fun i => ∃ k : Nat, k ≤ 64 ∧ i = .int .i64 k ∧ Hid (∀ j, j < k → bitOf a (63 - j) = 0)) (fun i => 64 - (intOf i).toNat)
  case atStart => exact ⟨0, Nat.zero_le _, rfl, fun j h => absurd h (by omega)⟩
  case round =>
    obtain ⟨k, hk, rfl, hx⟩ := hrel
    by_cases hlt : k < 64
    · have hb := bitOf_01 a (63 - k)
      have hc : (63 - (k : Int)) = ((63 - k : Nat) : Int) := by omega
      have hbit : Calls Tryd.prog 92 #[.int .i64 a, .int .i64 (63 - (k : Int))] w fun e w' => e = .returned (.int .i64 (bitOf a (63 - k))) ∧ w' = w := by
        rw [hc]; exact bit_any a (63 - k) (by omega) w
      clear hc
      by_cases h1 : bitOf a (63 - k) = 1
      · go_wp2_with (go_at_call 92; refine hbit.mono ?_; rintro e w' ⟨rfl, rfl⟩)
        go_ret
        exact ⟨k, ⟨hk, hx.out, fun _ => h1⟩, rfl, rfl⟩
      · have h0 : Hid (bitOf a (63 - k) = 0) := by show bitOf a (63 - k) = 0; omega
        go_wp2_with (go_at_call 92; refine hbit.mono ?_; rintro e w' ⟨rfl, rfl⟩)
        go_round
        case rel =>
          refine ⟨k + 1, by omega, by go_num, fun j hj => ?_⟩
          by_cases hjk : j = k
          · subst hjk; exact h0.out
          · exact hx.out j (by omega)
        case measure => simp [intOf]; omega
    · go_wp2
      go_ret
      have : k = 64 := by omega
      subst this
      exact ⟨64, ⟨by omega, hx.out, fun h => absurd h (by omega)⟩, rfl, rfl⟩
end Go.Proofs.YtjcmhaaohdmjpaaDoor.word
