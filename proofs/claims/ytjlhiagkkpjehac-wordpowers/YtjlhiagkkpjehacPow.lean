/- Powers that go round, and what package word's Power and the document's own answer make: both a to the n, round. -/
import Derived.Test.YtjlhiagkkpjehacRows
import Derived.Test.YtjlhiagkkpjehacTurn
import Derived.WalkKit
import Derived.ProofKit
import Derived.OpenShut
import Derived.WalkSpells
import Derived.WalkLawsBesides
namespace Go.Proofs.Ytjlhiagkkpjehac.word
open Go.ChangeShapes Go.WideShapes Go.ChangeAt Go.RowKit
open wrapped
set_option linter.unusedVariables false
theorem bits_uone (x : Int) (h0 : 0 ≤ x) (h1 : x < 18446744073709551616) : bits .and .u64 x 1 = x % 2 := by
  obtain ⟨n, rfl⟩ := Int.eq_ofNat_of_zero_le h0
  have e := u64_and_nat n 1 (by omega) (by omega)
  rw [Nat.and_one_is_mod] at e
  exact e.trans (by omega)
theorem bits_shift (x : Int) (k : Nat) (h0 : 0 ≤ x) (h1 : x < 18446744073709551616) : bits .and .u64 (x / 2 ^ k) 1 = bitOf x k := by
  have p := pos2 k
  have h2 : 0 ≤ x / 2 ^ k := Int.ediv_nonneg h0 (Int.le_of_lt p)
  have h3 : x / 2 ^ k ≤ x := Int.ediv_le_self _ h0
  exact bits_uone _ h2 (by omega)
/-- a to the n, round. -/
def pw (a : Int) (n : Nat) : Int := wrap64 (a ^ n)
theorem pw_zero (a : Int) : pw a 0 = 1 := by unfold pw; rw [Int.pow_zero]; unfold wrap64; omega
theorem pw_one (a : Int) (h : -9223372036854775808 ≤ a) (g : a ≤ 9223372036854775807) : pw a 1 = a := by
  unfold pw; rw [show a ^ 1 = a from by rw [Int.pow_succ, Int.pow_zero, Int.one_mul], wrap64_id a h g]
theorem pw_add (a : Int) (m n : Nat) : wrap64 (pw a m * pw a n) = pw a (m + n) := by
  unfold pw; rw [wrap64_mull, wrap64_mulr, ← Int.pow_add]
theorem nat_mod_succ (N k : Nat) : N % 2 ^ (k + 1) = N % 2 ^ k + 2 ^ k * (N / 2 ^ k % 2) := by
  rw [Nat.pow_succ, Nat.mod_mul]
theorem nat_div_succ (N k : Nat) : N / 2 ^ k = N / 2 ^ (k + 1) + N / 2 ^ (k + 1) + N / 2 ^ k % 2 := by
  rw [Nat.pow_succ, ← Nat.div_div_eq_div_mul]; omega
theorem bitOf_nat (N k : Nat) : bitOf (N : Int) k = ((N / 2 ^ k % 2 : Nat) : Int) := by
  unfold bitOf; simp [Int.natCast_emod, Int.natCast_ediv, Int.natCast_pow]
set_option maxHeartbeats 400000 in
theorem power_any (a : Int) (N : Nat) (la : -9223372036854775808 ≤ a) (ha : a ≤ 9223372036854775807) (hN : N < 18446744073709551616) (w : World) : Calls Try.prog 10 #[.int .i64 a, .int .u64 N] w fun e w' => e = .returned (.int .i64 (pw a N)) ∧ w' = w := by
  go_enter Try.func10, Try.ntmps10
  go_wp2
  go_loop [0, 5, 7] (fun p o i => ∃ (k : Nat) (x y : Int), k ≤ 64 ∧ i = .int .i64 k ∧ o = .int .i64 x ∧ p = .int .i64 y ∧ Hid (x = pw a (N % 2 ^ k)) ∧ Hid (y = pw a (2 ^ k))) (fun _ _ i => 64 - (intOf i).toNat)
  case atStart => exact ⟨0, 1, a, Nat.zero_le _, rfl, rfl, rfl, by show (1 : Int) = pw a (N % 2 ^ 0); rw [Nat.pow_zero, Nat.mod_one, pw_zero], by show a = pw a (2 ^ 0); rw [Nat.pow_zero, pw_one a la ha]⟩
  case round =>
    obtain ⟨k, x, y, hk, rfl, rfl, rfl, hx, hy⟩ := hrel
    by_cases hlt : k < 64
    · have hbit := bits_shift (N : Int) k (by omega) (by omega)
      have hb := bitOf_01 (N : Int) k
      have hbn : Hid (bitOf (N : Int) k = ((N / 2 ^ k % 2 : Nat) : Int)) := bitOf_nat N k
      by_cases h1 : bitOf (N : Int) k = 1
      · have h1' : (bitOf (N : Int) k == 1) = true := by simpa using h1
        have HN : Hid (N / 2 ^ k % 2 = 1) := by show N / 2 ^ k % 2 = 1; have := hbn.out; omega
        clear hbn h1
        go_wp2
        go_round
        case rel =>
          refine ⟨k + 1, _, _, by omega, by go_num, rfl, rfl, ?_, ?_⟩
          · show _ = pw a (N % 2 ^ (k + 1))
            rw [nat_mod_succ, HN.out, Nat.mul_one, ← pw_add, ← hx.out, ← hy.out]
          · show _ = pw a (2 ^ (k + 1))
            rw [Nat.pow_succ, Nat.mul_two, ← pw_add, ← hy.out]
        case measure => simp [intOf]; omega
      · have h1' : (bitOf (N : Int) k == 1) = false := by simpa using h1
        have HN : Hid (N / 2 ^ k % 2 = 0) := by show N / 2 ^ k % 2 = 0; have := hbn.out; omega
        clear hbn h1
        go_wp2
        go_round
        case rel =>
          refine ⟨k + 1, _, _, by omega, by go_num, rfl, rfl, ?_, ?_⟩
          · show _ = pw a (N % 2 ^ (k + 1))
            rw [nat_mod_succ, HN.out, Nat.mul_zero, Nat.add_zero]; exact hx.out
          · show _ = pw a (2 ^ (k + 1))
            rw [Nat.pow_succ, Nat.mul_two, ← pw_add, ← hy.out]
        case measure => simp [intOf]; omega
    · go_wp2
      go_ret
      have : k = 64 := by omega
      subst this
      exact ⟨ret_int (hx.out.trans (by rw [Nat.mod_eq_of_lt hN])), rfl⟩
set_option maxHeartbeats 400000 in
theorem refpower_any (a : Int) (N : Nat) (la : -9223372036854775808 ≤ a) (ha : a ≤ 9223372036854775807) (hN : N < 18446744073709551616) (w : World) : Calls Try.prog 11 #[.int .i64 a, .int .u64 N] w fun e w' => e = .returned (.int .i64 (pw a N)) ∧ w' = w := by
  go_enter Try.func11, Try.ntmps11
  go_wp2
  go_loop [5, 6] (fun o i => ∃ (j : Nat) (x : Int), j ≤ 64 ∧ i = .int .i64 ((j : Int) - 1) ∧ o = .int .i64 x ∧ Hid (x = pw a (N / 2 ^ j))) (fun _ i => (intOf i + 1).toNat)
  case atStart => exact ⟨64, 1, Nat.le_refl _, rfl, rfl, by show (1 : Int) = pw a (N / 2 ^ 64); rw [Nat.div_eq_of_lt hN, pw_zero]⟩
  case round =>
    obtain ⟨j, x, hj, rfl, rfl, hx⟩ := hrel
    rcases Nat.eq_zero_or_eq_succ_pred j with h0 | h0
    · subst h0
      go_wp2
      go_ret
      exact ⟨ret_int (hx.out.trans (by rw [Nat.pow_zero, Nat.div_one])), rfl⟩
    · generalize j.pred = m at h0
      subst h0
      have hc : (((m.succ : Nat) : Int) - 1) = (m : Int) := by omega
      rw [hc]
      clear hc
      have hm : m < 64 := by omega
      clear hj
      have hbit := bits_shift (N : Int) m (by omega) (by omega)
      have hb := bitOf_01 (N : Int) m
      have hbn : Hid (bitOf (N : Int) m = ((N / 2 ^ m % 2 : Nat) : Int)) := bitOf_nat N m
      by_cases h1 : bitOf (N : Int) m = 1
      · have h1' : (bitOf (N : Int) m == 1) = true := by simpa using h1
        have HN : Hid (N / 2 ^ m % 2 = 1) := by show N / 2 ^ m % 2 = 1; have := hbn.out; omega
        clear hbn h1
        go_wp2
        go_round
        case rel =>
          refine ⟨m, _, by omega, by go_num, rfl, ?_⟩
          show _ = pw a (N / 2 ^ m)
          have e := nat_div_succ N m
          rw [HN.out] at e
          rw [e, ← pw_add, ← pw_add, ← hx.out, pw_one a la ha]
        case measure => simp [intOf]
      · have h1' : (bitOf (N : Int) m == 1) = false := by simpa using h1
        have HN : Hid (N / 2 ^ m % 2 = 0) := by show N / 2 ^ m % 2 = 0; have := hbn.out; omega
        clear hbn h1
        go_wp2
        go_round
        case rel =>
          refine ⟨m, _, by omega, by go_num, rfl, ?_⟩
          show _ = pw a (N / 2 ^ m)
          have e := nat_div_succ N m
          rw [HN.out, Nat.add_zero] at e
          rw [e, ← pw_add, ← hx.out]
        case measure => simp [intOf]
end Go.Proofs.Ytjlhiagkkpjehac.word
