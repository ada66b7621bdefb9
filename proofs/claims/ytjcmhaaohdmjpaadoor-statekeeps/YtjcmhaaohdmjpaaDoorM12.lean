/- Plain facts on turning, flipping and counting the bits of 64-bit numbers: they say nothing of a program. -/
import Derived.Test.YtjcmhaaohdmjpaaDoorM11
import Derived.Test.YtjcmhaaohdmjpaaDoorRows
import Derived.WalkKit
import Derived.ProofKit
import Derived.OpenShut
import Derived.WalkSpells
import Derived.WalkLawsBesides
namespace Go.Proofs.YtjcmhaaohdmjpaaDoor.wrapped
open Go.RowKit

theorem pos2 (n : Nat) : (0 : Int) < 2 ^ n := Int.pow_pos (by decide)
theorem bitOf_zero (y b : Int) (h0 : 0 ≤ b) (h1 : b ≤ 1) : bitOf (y * 2 + b) 0 = b := by unfold bitOf; simp; omega
theorem bitOf_div (x : Int) (m k : Nat) : bitOf (x / 2 ^ m) k = bitOf x (m + k) := by
  unfold bitOf; rw [Int.ediv_ediv_of_nonneg (Int.le_of_lt (pos2 m)), ← Int.pow_add]
theorem bitOf_succ (y b : Int) (k : Nat) (h0 : 0 ≤ b) (h1 : b ≤ 1) : bitOf (y * 2 + b) (k + 1) = bitOf y k := by
  have h := bitOf_div (y * 2 + b) 1 k
  rw [Nat.add_comm] at h
  rw [← h]
  congr 1
  simp; omega
theorem bitOf_flip (a : Int) (n j : Nat) (h : j < n) : bitOf (flipN a n) j = bitOf a (n - 1 - j) := by
  induction n generalizing j with
  | zero => omega
  | succ n ih =>
    have hb := bitOf_01 a n
    simp only [flipN]
    cases j with
    | zero => rw [bitOf_zero _ _ hb.1 hb.2]; rfl
    | succ j =>
      rw [bitOf_succ _ _ _ hb.1 hb.2, ih j (by omega)]
      congr 1; omega
theorem bitOf_add (x c : Int) (m k : Nat) (h : k < m) : bitOf (x + 2 ^ m * c) k = bitOf x k := by
  unfold bitOf
  obtain ⟨d, rfl⟩ : ∃ d, m = k + (d + 1) := ⟨m - k - 1, by omega⟩
  rw [Int.pow_add, Int.mul_assoc, Int.add_mul_ediv_left _ _ (by have := pos2 k; omega), Int.pow_succ, Int.mul_comm (2 ^ d) 2, Int.mul_assoc]
  omega
theorem bitOf_wrap (x : Int) (k : Nat) (h : k < 64) : bitOf (wrap64 x) k = bitOf x k := by
  obtain ⟨c, hc⟩ := wrap64_ex x
  rw [hc]
  exact bitOf_add x c 64 k h
theorem bitOf_mod (x : Int) (m k : Nat) (h : k < m) : bitOf (x % 2 ^ m) k = bitOf x k := by
  have e : x % 2 ^ m = x + 2 ^ m * (-(x / 2 ^ m)) := by rw [Int.emod_def, Int.mul_neg]; omega
  rw [e]; exact bitOf_add x _ m k h
theorem emod_succ (x : Int) (n : Nat) : x % 2 ^ (n + 1) = x % 2 ^ n + 2 ^ n * bitOf x n := by
  unfold bitOf
  rw [Int.emod_def, Int.emod_def x (2 ^ n), Int.emod_def _ 2, Int.pow_succ, Int.mul_sub]
  rw [← Int.ediv_ediv_of_nonneg (Int.le_of_lt (pos2 n)), Int.mul_assoc]
  omega
theorem bits_ext (x y : Int) (n : Nat) (h : ∀ k, k < n → bitOf x k = bitOf y k) : x % 2 ^ n = y % 2 ^ n := by
  induction n with
  | zero => simp
  | succ n ih => rw [emod_succ, emod_succ, ih (fun k hk => h k (by omega)), h n (by omega)]
theorem word_ext (x y : Int) (hx : -9223372036854775808 ≤ x) (gx : x ≤ 9223372036854775807) (hy : -9223372036854775808 ≤ y) (gy : y ≤ 9223372036854775807)
    (h : ∀ k, k < 64 → bitOf x k = bitOf y k) : x = y := by
  have e := bits_ext x y 64 h
  rw [show (2 : Int) ^ 64 = 18446744073709551616 from by decide] at e
  omega
theorem flip_flip (a : Int) (h : -9223372036854775808 ≤ a) (g : a ≤ 9223372036854775807) : wrap64 (flipN (wrap64 (flipN a 64)) 64) = a := by
  refine word_ext _ _ (wrap64_lo _) (wrap64_hi _) h g fun k hk => ?_
  rw [bitOf_wrap _ _ hk, bitOf_flip _ _ _ hk, bitOf_wrap _ _ (by omega), bitOf_flip _ _ _ (by omega)]
  congr 1; omega
theorem xor_not (a : Int) (h : -9223372036854775808 ≤ a) (g : a ≤ 9223372036854775807) : bits .xor .i64 (-1) a = -1 - a := by
  have e1 : BitVec.ofInt 64 (-1) ^^^ BitVec.ofInt 64 a = ~~~ (BitVec.ofInt 64 a) := by
    have : BitVec.ofInt 64 (-1) = BitVec.allOnes 64 := by decide
    rw [this, BitVec.allOnes_xor]
  rw [bits_xor_eq, e1, BitVec.toInt_not, BitVec.toNat_ofInt, Int.bmod_def]
  simp only [show (2 ^ 64 : Nat) = 18446744073709551616 from by decide, show (2 ^ 64 : Int) = 18446744073709551616 from by decide]
  split <;> omega
theorem bitOf_not (a : Int) (k : Nat) : bitOf (-1 - a) k = 1 - bitOf a k := by
  unfold bitOf
  have h := pos2 k
  have e : (-1 - a) / 2 ^ k = -1 - a / 2 ^ k := by
    have h2 : (-1 - a) = (2 ^ k - 1 - a % 2 ^ k) + 2 ^ k * (-1 - a / 2 ^ k) := by
      have := Int.mul_ediv_add_emod a (2 ^ k)
      rw [Int.mul_sub]
      omega
    rw [h2, Int.add_mul_ediv_left _ _ (by omega)]
    have h3 := Int.emod_nonneg a (b := 2 ^ k) (by omega)
    have h4 := Int.emod_lt_of_pos a h
    rw [Int.ediv_eq_zero_of_lt (by omega) (by omega)]
    omega
  rw [e]; omega
theorem ones_not (a : Int) (n : Nat) : onesN a n + onesN (-1 - a) n = n := by
  induction n with
  | zero => rfl
  | succ n ih => simp only [onesN]; rw [bitOf_not]; omega
theorem onesN_congr (x y : Int) (n : Nat) (h : ∀ k, k < n → bitOf x k = bitOf y k) : onesN x n = onesN y n := by
  induction n with
  | zero => rfl
  | succ n ih => simp only [onesN]; rw [ih (fun k hk => h k (by omega)), h n (by omega)]
theorem onesN_add (x : Int) (m n : Nat) : onesN x (m + n) = onesN x m + onesN (x / 2 ^ m) n := by
  induction n with
  | zero => simp [onesN]
  | succ n ih => rw [← Nat.add_assoc]; simp only [onesN]; rw [ih, bitOf_div]; omega
theorem rotN_eq (x : Int) (s : Nat) (hs : s ≤ 64) : rotN x s = x / 2 ^ (64 - s) + 2 ^ s * (x % 2 ^ (64 - s)) := by
  unfold rotN
  have p : (18446744073709551616 : Int) = 2 ^ s * 2 ^ (64 - s) := by
    rw [← Int.pow_add, show s + (64 - s) = 64 by omega]; decide
  rw [p, Int.mul_comm x, Int.mul_emod_mul_of_pos _ _ (pos2 s)]
  omega
theorem rot_high (x : Int) (s : Nat) (h0 : 0 ≤ x) (h1 : x < 18446744073709551616) (hs : s ≤ 64) : 0 ≤ x / 2 ^ (64 - s) ∧ x / 2 ^ (64 - s) < 2 ^ s := by
  refine ⟨Int.ediv_nonneg h0 (Int.le_of_lt (pos2 _)), Int.ediv_lt_of_lt_mul (pos2 _) ?_⟩
  rw [← Int.pow_add, show s + (64 - s) = 64 by omega]
  exact h1
theorem rot_mod (x : Int) (s : Nat) (h0 : 0 ≤ x) (h1 : x < 18446744073709551616) (hs : s ≤ 64) : rotN x s % 2 ^ s = x / 2 ^ (64 - s) := by
  have h := rot_high x s h0 h1 hs
  rw [rotN_eq x s hs, Int.add_mul_emod_self_left, Int.emod_eq_of_lt h.1 h.2]
theorem rot_div (x : Int) (s : Nat) (h0 : 0 ≤ x) (h1 : x < 18446744073709551616) (hs : s ≤ 64) : rotN x s / 2 ^ s = x % 2 ^ (64 - s) := by
  have h := rot_high x s h0 h1 hs
  rw [rotN_eq x s hs, Int.add_mul_ediv_left _ _ (by have := pos2 s; omega), Int.ediv_eq_zero_of_lt h.1 h.2]
  omega
theorem rot_bd (x : Int) (s : Nat) (h0 : 0 ≤ x) (h1 : x < 18446744073709551616) (hs : s ≤ 64) : 0 ≤ rotN x s ∧ rotN x s < 18446744073709551616 := by
  have h := rot_high x s h0 h1 hs
  have e1 := Int.emod_nonneg x (b := 2 ^ (64 - s)) (by have := pos2 (64 - s); omega)
  have e2 := Int.emod_lt_of_pos x (pos2 (64 - s))
  rw [rotN_eq x s hs]
  have e3 : (0 : Int) ≤ 2 ^ s * (x % 2 ^ (64 - s)) := Int.mul_nonneg (Int.le_of_lt (pos2 s)) e1
  have e4 : (2 : Int) ^ s * (x % 2 ^ (64 - s)) ≤ 2 ^ s * (2 ^ (64 - s) - 1) := Int.mul_le_mul_of_nonneg_left (by omega) (Int.le_of_lt (pos2 s))
  have p : (18446744073709551616 : Int) = 2 ^ s * 2 ^ (64 - s) := by
    rw [← Int.pow_add, show s + (64 - s) = 64 by omega]; decide
  rw [Int.mul_sub, ← p] at e4
  omega
theorem rot_back (x : Int) (s : Nat) (h0 : 0 ≤ x) (h1 : x < 18446744073709551616) (hs : s ≤ 64) : rotN (rotN x s) (64 - s) = x := by
  rw [rotN_eq _ _ (by omega), show 64 - (64 - s) = s by omega, rot_mod x s h0 h1 hs, rot_div x s h0 h1 hs]
  have := Int.mul_ediv_add_emod x (2 ^ (64 - s))
  omega
theorem rot_zero (x : Int) (h0 : 0 ≤ x) (h1 : x < 18446744073709551616) : rotN x 0 = x := by
  unfold rotN; simp; omega
theorem ones_rot (x : Int) (s : Nat) (h0 : 0 ≤ x) (h1 : x < 18446744073709551616) (hs : s ≤ 64) : onesN (rotN x s) 64 = onesN x 64 := by
  have e1 := onesN_add (rotN x s) s (64 - s)
  have e2 := onesN_add x (64 - s) s
  rw [show s + (64 - s) = 64 by omega, rot_div x s h0 h1 hs] at e1
  rw [show 64 - s + s = 64 by omega] at e2
  rw [e1, e2, ← rot_mod x s h0 h1 hs]
  rw [onesN_congr (rotN x s) (rotN x s % 2 ^ s) s (fun k hk => (bitOf_mod _ _ _ hk).symm), onesN_congr (x % 2 ^ (64 - s)) x (64 - s) (fun k hk => bitOf_mod _ _ _ hk)]
  omega
theorem ones_wrap (x : Int) : onesN (wrap64 x) 64 = onesN x 64 := onesN_congr _ _ 64 fun k hk => bitOf_wrap x k hk
theorem ones_mod (x : Int) : onesN (x % 18446744073709551616) 64 = onesN x 64 := onesN_congr _ _ 64 fun k hk => bitOf_mod x 64 k hk
/-- rotl by b, and then by neg b, is a. -/
theorem rotl_back (a b : Int) (h : -9223372036854775808 ≤ a) (g : a ≤ 9223372036854775807) :
    wrap64 (rotN (wrap64 (rotN (a % 18446744073709551616) (b % 64).toNat) % 18446744073709551616) (wrap64 (-b) % 64).toNat) = a := by
  have hs : (b % 64).toNat ≤ 64 := by omega
  have hx0 : 0 ≤ a % 18446744073709551616 := by omega
  have hx1 : a % 18446744073709551616 < 18446744073709551616 := by omega
  have hr := rot_bd _ _ hx0 hx1 hs
  have e1 : wrap64 (rotN (a % 18446744073709551616) (b % 64).toNat) % 18446744073709551616 = rotN (a % 18446744073709551616) (b % 64).toNat := by unfold wrap64; omega
  have hb : (wrap64 (-b) % 64).toNat = (64 - (b % 64).toNat) % 64 := by unfold wrap64; omega
  rw [e1, hb]
  by_cases hz : (b % 64).toNat = 0
  · rw [hz]
    show wrap64 (rotN (rotN _ 0) 0) = a
    rw [rot_zero _ hx0 hx1, rot_zero _ hx0 hx1]
    unfold wrap64; omega
  · rw [Nat.mod_eq_of_lt (by omega), rot_back _ _ hx0 hx1 hs]
    unfold wrap64; omega
end Go.Proofs.YtjcmhaaohdmjpaaDoor.wrapped
/- Single bits of unsigned words, and what the document's own answer for a bit makes. -/
namespace Go.Proofs.YtjcmhaaohdmjpaaDoor.word
open Go.ChangeShapes Go.WideShapes Go.ChangeAt Go.RowKit
open wrapped
set_option linter.unusedVariables false
theorem bits_uone (x : Int) (h0 : 0 ≤ x) (h1 : x < 18446744073709551616) : bits .and .u64 x 1 = x % 2 := by
  obtain ⟨n, rfl⟩ := Int.eq_ofNat_of_zero_le h0
  have e := u64_and_nat n 1 (by omega) (by omega)
  rw [Nat.and_one_is_mod] at e
  exact e.trans (by omega)
theorem bits_shift (x : Int) (k : Nat) (h0 : 0 ≤ x) (h1 : x < 18446744073709551616) : bits .and .u64 (x / 2 ^ k) 1 = bitOf x k := by
  have p := pos2 k
  have h2 : 0 ≤ x / 2 ^ k := Int.ediv_nonneg h0 (Int.le_of_lt p)
  have h3 : x / 2 ^ k ≤ x := Int.ediv_le_self _ h0
  exact bits_uone _ h2 (by omega)
theorem refbit_any (a : Int) (k : Nat) (hk : k < 64) (w : World) : Calls Tryd.prog 75 #[.int .i64 a, .int .i64 k] w fun e w' => e = .returned (.int .i64 (bitOf a k)) ∧ w' = w := by
  have hu : IntKind.u64.wrap a = a % 18446744073709551616 := IntKind.wrap_u64 a
  have hbit := bits_shift (a % 18446744073709551616) k (by omega) (by omega)
  have hm : Hid (bitOf (a % 18446744073709551616) k = bitOf a k) := bitOf_mod a 64 k hk
  have hb := bitOf_01 (a % 18446744073709551616) k
  go_enter Tryd.func75, Tryd.ntmps75
  go_wp2
  go_ret
  exact ⟨ret_int hm.out, rfl⟩
end Go.Proofs.YtjcmhaaohdmjpaaDoor.word
/- What the document's own answers for words are built of (scarabref02's bit, put, converted): contracts. -/
namespace Go.Proofs.YtjcmhaaohdmjpaaDoor.word
open Go.ChangeShapes Go.WideShapes Go.ChangeAt Go.RowKit
open wrapped
set_option linter.unusedVariables false
theorem or_put (B v : Int) (k : Nat) (hk : k < 64) (h0 : 0 ≤ B) (h1 : B < 2 ^ k) (v0 : 0 ≤ v) (v1 : v ≤ 1) :
    bits .or .u64 B (v * 2 ^ k) = B + v * 2 ^ k ∧ 0 ≤ B + v * 2 ^ k ∧ B + v * 2 ^ k < 2 ^ (k + 1) ∧ v * 2 ^ k < 18446744073709551616 := by
  obtain ⟨b, rfl⟩ := Int.eq_ofNat_of_zero_le h0
  have hb : b < 2 ^ k := by
    have : ((b : Nat) : Int) < ((2 ^ k : Nat) : Int) := by simpa [Int.natCast_pow] using h1
    omega
  have hp : (2 : Nat) ^ k ≤ 2 ^ 63 := Nat.pow_le_pow_right (by decide) (by omega)
  have hp2 : (2 : Nat) ^ 63 = 9223372036854775808 := by decide
  have hv : v = 0 ∨ v = 1 := by omega
  have hpi : ((2 ^ k : Nat) : Int) = 2 ^ k := by simp [Int.natCast_pow]
  have hpos := pos2 k
  rcases hv with rfl | rfl
  · rw [Int.zero_mul]
    have e := u64_or_nat b 0 (by omega) (by omega)
    rw [Nat.or_zero] at e
    refine ⟨by rw [Int.add_zero]; exact e, by omega, ?_, by omega⟩
    rw [Int.pow_succ]; omega
  · rw [Int.one_mul]
    have e := u64_or_nat b (2 ^ k) (by omega) (by omega)
    have e2 : b ||| 2 ^ k = b + 2 ^ k := by
      have := Nat.two_pow_add_eq_or_of_lt hb 1
      rw [Nat.mul_one] at this
      rw [Nat.or_comm, ← this, Nat.add_comm]
    rw [e2, Int.natCast_add, hpi] at e
    refine ⟨e, by omega, ?_, by rw [← hpi]; omega⟩
    rw [Int.pow_succ]; omega
theorem refput_as (x v B : Int) (k : Nat) (hk : k < 64) (h0 : 0 ≤ B) (h1 : B < 2 ^ k) (v0 : 0 ≤ v) (v1 : v ≤ 1) (hx : x = wrap64 B) (w : World) :
    Calls Tryd.prog 76 #[.int .i64 x, .int .i64 k, .int .i64 v] w fun e w' => e = .returned (.int .i64 (wrap64 (B + v * 2 ^ k))) ∧ w' = w := by
  obtain ⟨e1, e2, e3, e4⟩ := or_put B v k hk h0 h1 v0 v1
  have hB : B < 18446744073709551616 := by
    have h2 : (2 : Int) ^ k ≤ 2 ^ 63 := by
      have h3 : (2 : Nat) ^ k ≤ 2 ^ 63 := Nat.pow_le_pow_right (by decide) (by omega)
      have h4 : ((2 ^ k : Nat) : Int) ≤ ((2 ^ 63 : Nat) : Int) := Int.ofNat_le.2 h3
      simpa [Int.natCast_pow] using h4
    rw [show (2 : Int) ^ 63 = 9223372036854775808 from by decide] at h2
    omega
  have hu : IntKind.u64.wrap x = B := by rw [IntKind.wrap_u64, hx]; unfold wrap64; omega
  have hp : 0 ≤ v * 2 ^ k := Int.mul_nonneg v0 (Int.le_of_lt (pos2 k))
  have hw : IntKind.u64.wrap (v * 2 ^ k) = v * 2 ^ k := by rw [IntKind.wrap_u64]; omega
  clear hx h0 h1 e2 e3 e4 hp hB
  go_enter Tryd.func76, Tryd.ntmps76
  go_wp2
  go_ret
  exact ⟨rfl, rfl⟩
/-- What has been put in behind k bits, when the n lowest ones are a's and the others are s times a's bit n - 1. -/
def cb (a : Int) (n : Nat) (s : Int) (k : Nat) : Int := if k ≤ n then a % 2 ^ k else a % 2 ^ n + s * bitOf a (n - 1) * (2 ^ k - 2 ^ n)
theorem cb_low (a : Int) (n : Nat) (s : Int) (k : Nat) (h : k < n) : cb a n s (k + 1) = cb a n s k + bitOf a k * 2 ^ k := by
  unfold cb
  rw [if_pos (by omega), if_pos (by omega), emod_succ, Int.mul_comm (bitOf a k)]
theorem cb_high (a : Int) (n : Nat) (s : Int) (k : Nat) (h : n ≤ k) : cb a n s (k + 1) = cb a n s k + s * bitOf a (n - 1) * 2 ^ k := by
  unfold cb
  rw [if_neg (by omega)]
  by_cases e : k = n
  · subst e
    rw [if_pos (Nat.le_refl _), Int.pow_succ, Int.mul_sub]
    rw [← Int.mul_assoc]; omega
  · rw [if_neg (by omega), Int.pow_succ, Int.mul_sub, Int.mul_sub, ← Int.mul_assoc]; omega
theorem cb_bd (a : Int) (n : Nat) (s : Int) (h0 : 0 ≤ s) (h1 : s ≤ 1) (k : Nat) : 0 ≤ cb a n s k ∧ cb a n s k < 2 ^ k := by
  induction k with
  | zero => unfold cb; rw [if_pos (Nat.zero_le _)]; simp
  | succ k ih =>
    have hp := pos2 k
    rw [Int.pow_succ]
    by_cases h : k < n
    · rw [cb_low a n s k h]
      have hb := bitOf_01 a k
      have hv : bitOf a k = 0 ∨ bitOf a k = 1 := by omega
      rcases hv with e | e <;> rw [e] <;> omega
    · rw [cb_high a n s k (by omega)]
      have hb := bitOf_01 a (n - 1)
      have hv : s * bitOf a (n - 1) = 0 ∨ s * bitOf a (n - 1) = 1 := by
        have hs : s = 0 ∨ s = 1 := by omega
        have hc : bitOf a (n - 1) = 0 ∨ bitOf a (n - 1) = 1 := by omega
        rcases hs with rfl | rfl <;> rcases hc with e | e <;> rw [e] <;> simp
      rcases hv with e | e <;> rw [e] <;> omega
set_option maxHeartbeats 1000000 in
theorem refconv_any (a : Int) (n : Nat) (t : Bool) (hn : 1 ≤ n) (hn2 : n ≤ 64) (w : World) :
    Calls Tryd.prog 78 #[.int .i64 a, .int .i64 n, .bool t] w fun e w' => e = .returned (.int .i64 (wrap64 (cb a n (if t then 1 else 0) 64))) ∧ w' = w := by
  have hs0 : 0 ≤ (if t then (1 : Int) else 0) := by cases t <;> decide
  have hs1 : (if t then (1 : Int) else 0) ≤ 1 := by cases t <;> decide
  obtain ⟨s, hs⟩ : ∃ s : Int, Hid ((if t then (1 : Int) else 0) = s) := ⟨_, rfl⟩
  rw [hs.out] at hs0 hs1 ⊢
  go_enter Tryd.func78, Tryd.ntmps78
  go_wp2
  go_loop [7, 8] (fun r i => ∃ (k : Nat) (x : Int), k ≤ 64 ∧ i = .int .i64 k ∧ r = .int .i64 x ∧ Hid (x = wrap64 (cb a n s k))) (fun _ i => 64 - (intOf i).toNat)
  case atStart => exact ⟨0, 0, Nat.zero_le _, rfl, rfl, by show (0 : Int) = wrap64 (cb a n s 0); unfold cb; rw [if_pos (Nat.zero_le _)]; simp [wrap64]⟩
  case round =>
    obtain ⟨k, x, hk, rfl, rfl, hx⟩ := hrel
    by_cases hlt : k < 64
    · have hbd := cb_bd a n s hs0 hs1 k
      by_cases hkn : k < n
      · have hb := bitOf_01 a k
        have hput := refput_as x (bitOf a k) (cb a n s k) k hlt hbd.1 hbd.2 hb.1 hb.2 hx.out
        rw [← cb_low a n s k hkn] at hput
        clear hbd
        go_wp2_with (first | (go_at_call 75; refine (refbit_any _ _ hlt _).mono ?_; rintro e w' ⟨rfl, rfl⟩) | (go_at_call 76; with_reducible refine (hput _).mono ?_; rintro e w' ⟨rfl, rfl⟩))
        go_round
        case rel => exact ⟨k + 1, _, by omega, by go_num, rfl, rfl⟩
        case measure => simp [intOf]; omega
      · cases t with
        | true =>
          have e1 : s = 1 := hs.out.symm
          have hb := bitOf_01 a (n - 1)
          have hput := refput_as x (bitOf a (n - 1)) (cb a n s k) k hlt hbd.1 hbd.2 hb.1 hb.2 hx.out
          have e2 := cb_high a n s k (by omega)
          rw [e1, Int.one_mul] at e2
          rw [e1] at hput
          rw [← e2] at hput
          have hbit : ∀ w, Calls Tryd.prog 75 #[.int .i64 a, .int .i64 ((n : Int) - 1)] w fun e w' => e = .returned (.int .i64 (bitOf a (n - 1))) ∧ w' = w := by
            intro w
            have h := refbit_any a (n - 1) (by omega) w
            rw [show ((n - 1 : Nat) : Int) = (n : Int) - 1 by omega] at h
            exact h
          have E1 : Hid (s = 1) := e1
          clear hbd e2 e1 hs hs0 hs1
          go_wp2_with (first | (go_at_call 75; refine (hbit _).mono ?_; rintro e w' ⟨rfl, rfl⟩) | (go_at_call 76; with_reducible refine (hput _).mono ?_; rintro e w' ⟨rfl, rfl⟩))
          go_round
          case rel => exact ⟨k + 1, _, by omega, by go_num, rfl, by rw [E1.out]; rfl⟩
          case measure => simp [intOf]; omega
        | false =>
          have e1 : s = 0 := hs.out.symm
          have hput := refput_as x 0 (cb a n s k) k hlt hbd.1 hbd.2 (by omega) (by omega) hx.out
          have e2 := cb_high a n s k (by omega)
          rw [e1, Int.zero_mul] at e2
          rw [e1] at hput
          rw [← e2] at hput
          have E1 : Hid (s = 0) := e1
          clear hbd e2 e1 hs hs0 hs1
          go_wp2_with (go_at_call 76; with_reducible refine (hput _).mono ?_; rintro e w' ⟨rfl, rfl⟩)
          go_round
          case rel => exact ⟨k + 1, _, by omega, by go_num, rfl, by rw [E1.out]; rfl⟩
          case measure => simp [intOf]; omega
    · go_wp2
      go_ret
      have : k = 64 := by omega
      subst this
      exact ⟨ret_int hx.out, rfl⟩
end Go.Proofs.YtjcmhaaohdmjpaaDoor.word
