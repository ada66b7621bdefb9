/- What the document's own answer to a division of two words makes (scarabref02.Divide). -/
import Derived.Test.YtjlhiagkkpjehacDivide
import Derived.Test.YtjlhiagkkpjehacUbit
namespace Go.Proofs.Ytjlhiagkkpjehac.word
open Go.ChangeShapes Go.WideShapes Go.ChangeAt Go.RowKit
open wrapped
set_option linter.unusedVariables false
theorem refdivide_zero (hi : Int) (lo : Nat) (w : World) : Calls Try.prog 15 #[.int .i64 hi, .int .u64 lo, .int .i64 0] w fun e w' => e = .returned (.tuple #[.int .i64 0, .int .i64 0, .int .i64 20]) ∧ w' = w := by
  go_enter Try.func15, Try.ntmps15
  go_wp2
  go_ret3
  exact ⟨rfl, rfl⟩
/-- Bit by bit: q and r behind the bits of M from j on, and whether the quotient has passed a word. -/
def DInv (M D j q r : Nat) (o : Bool) : Prop := q = M / 2 ^ j / D % 18446744073709551616 ∧ r = M / 2 ^ j % D ∧ o = decide (18446744073709551616 ≤ M / 2 ^ j / D)
theorem DInv.start (M D : Nat) (h : M < 2 ^ 128) : DInv M D 128 0 0 false := by
  unfold DInv
  rw [Nat.div_eq_of_lt h, Nat.zero_div, Nat.zero_mod, Nat.zero_mod]
  exact ⟨rfl, rfl, rfl⟩
theorem DInv.step {M D m q r : Nat} {o : Bool} (hD : 0 < D) (h : DInv M D (m + 1) q r o) :
    (D ≤ 2 * r + M / 2 ^ m % 2 → DInv M D m ((2 * q + 1) % 18446744073709551616) (2 * r + M / 2 ^ m % 2 - D) (o || decide (9223372036854775808 ≤ q))) ∧
    (¬ D ≤ 2 * r + M / 2 ^ m % 2 → DInv M D m (2 * q % 18446744073709551616) (2 * r + M / 2 ^ m % 2) (o || decide (9223372036854775808 ≤ q))) := by
  obtain ⟨h1, h2, h3⟩ := h
  have e : M / 2 ^ m = 2 * (M / 2 ^ (m + 1)) + M / 2 ^ m % 2 := by
    rw [Nat.pow_succ, ← Nat.div_div_eq_div_mul]; omega
  have hb : M / 2 ^ m % 2 < 2 := Nat.mod_lt _ (by decide)
  unfold DInv
  generalize M / 2 ^ m = P at *
  generalize M / 2 ^ (m + 1) = P1 at *
  generalize P % 2 = b at *
  have e1 := Nat.div_add_mod' P1 D
  have hr : r < D := by rw [h2]; exact Nat.mod_lt _ hD
  rw [← h2] at e1
  generalize P1 / D = Q1 at *
  have hP : P = (2 * r + b) + D * (2 * Q1) := by
    have : D * (2 * Q1) = 2 * (Q1 * D) := by rw [Nat.mul_left_comm, Nat.mul_comm D Q1]
    rw [this]; omega
  have hov : ∀ k, k < 2 → (o || decide (9223372036854775808 ≤ q)) = decide (18446744073709551616 ≤ 2 * Q1 + k) := by
    intro k hk
    rw [h3]
    by_cases c1 : 18446744073709551616 ≤ Q1
    · rw [decide_eq_true c1, decide_eq_true (by omega : 18446744073709551616 ≤ 2 * Q1 + k)]; rfl
    · rw [decide_eq_false c1, Bool.false_or]
      by_cases c2 : 9223372036854775808 ≤ q
      · rw [decide_eq_true c2, decide_eq_true (by omega : 18446744073709551616 ≤ 2 * Q1 + k)]
      · rw [decide_eq_false c2, decide_eq_false (by omega : ¬ 18446744073709551616 ≤ 2 * Q1 + k)]
  refine ⟨fun hc => ?_, fun hc => ?_⟩
  · have hP2 : P = (2 * r + b - D) + D * (2 * Q1 + 1) := by rw [Nat.mul_add, Nat.mul_one]; omega
    have hq : P / D = 2 * Q1 + 1 := by rw [hP2, Nat.add_mul_div_left _ _ hD, Nat.div_eq_of_lt (by omega), Nat.zero_add]
    have hm : P % D = 2 * r + b - D := by rw [hP2, Nat.add_mul_mod_self_left, Nat.mod_eq_of_lt (by omega)]
    rw [hq, hm]
    exact ⟨by omega, rfl, hov 1 (by decide)⟩
  · have hq : P / D = 2 * Q1 := by rw [hP, Nat.add_mul_div_left _ _ hD, Nat.div_eq_of_lt (by omega), Nat.zero_add]
    have hm : P % D = 2 * r + b := by rw [hP, Nat.add_mul_mod_self_left, Nat.mod_eq_of_lt (by omega)]
    rw [hq, hm]
    exact ⟨by omega, rfl, hov 0 (by decide)⟩
theorem bit_high (T B m : Nat) (h : 64 ≤ m) (hB : B < 18446744073709551616) : (T * 18446744073709551616 + B) / 2 ^ m % 2 = T / 2 ^ (m - 64) % 2 := by
  obtain ⟨k, rfl⟩ : ∃ k, m = 64 + k := ⟨m - 64, by omega⟩
  rw [Nat.pow_add, ← Nat.div_div_eq_div_mul, show (2 : Nat) ^ 64 = 18446744073709551616 from by decide, Nat.add_sub_cancel_left]
  congr 2; omega
theorem bit_low (T B m : Nat) (h : m < 64) : (T * 18446744073709551616 + B) / 2 ^ m % 2 = B / 2 ^ m % 2 := by
  obtain ⟨k, hk⟩ : ∃ k, 64 = m + (k + 1) := ⟨63 - m, by omega⟩
  have e : (18446744073709551616 : Nat) = 2 ^ m * (2 ^ k * 2) := by rw [← Nat.pow_succ, ← Nat.pow_add, ← hk]
  rw [e, Nat.mul_left_comm, Nat.mul_add_div (Nat.two_pow_pos m), ← Nat.mul_assoc]
  omega
theorem pos_wrap (y : Int) (h0 : 0 ≤ y) (h1 : y ≤ 9223372036854775807) : wrap64 y = y := wrap64_id y (by omega) h1
theorem neg_wrap (y : Int) (h0 : 0 ≤ y) (h1 : y ≤ 9223372036854775807) : wrap64 (-wrap64 y) = -y := by rw [pos_wrap y h0 h1]; exact wrap64_id _ (by omega) (by omega)
theorem least_one : wrap64 9223372036854775808 = -9223372036854775808 := by decide +kernel
theorem least_wrap : wrap64 (-wrap64 ((9223372036854775808 : Nat) : Int)) = -9223372036854775808 := by decide +kernel
theorem ret_three {a b c d e f : Int} (h : a = b) (g : c = d) (i : e = f) : Ending.returned (.tuple #[.int .i64 a, .int .i64 c, .int .i64 e]) = .returned (.tuple #[.int .i64 b, .int .i64 d, .int .i64 f]) := by rw [h, g, i]
theorem val_int {k : IntKind} {a b : Int} (h : a = b) : Value.int k a = Value.int k b := by rw [h]
theorem bitOf_nat (N k : Nat) : bitOf (N : Int) k = ((N / 2 ^ k % 2 : Nat) : Int) := by
  unfold bitOf; simp [Int.natCast_emod, Int.natCast_ediv, Int.natCast_pow]
theorem exit_low {M D x y : Nat} (h : DInv M D 0 x y false) : M / D = x ∧ M % D = y := by
  obtain ⟨h1, h2, h3⟩ := h
  rw [Nat.pow_zero, Nat.div_one] at h1 h2 h3
  have h4 : ¬ 18446744073709551616 ≤ M / D := of_decide_eq_false h3.symm
  refine ⟨?_, h2.symm⟩
  rw [h1]
  generalize M / D = q at h4 ⊢
  omega
theorem exit_big {M D x y : Nat} (h : DInv M D 0 x y true) (bl : Bool) : dvBig M D bl = true := by
  obtain ⟨h1, h2, h3⟩ := h
  rw [Nat.pow_zero, Nat.div_one] at h3
  have h4 : 18446744073709551616 ≤ M / D := of_decide_eq_true h3.symm
  unfold dvBig
  generalize M / D = q at h4 ⊢
  cases bl
  · rw [sgok_false, decide_eq_false (by omega)]; rfl
  · rw [sgok_true, decide_eq_false (by omega)]; rfl
theorem big_gt (M D x : Nat) (h : M / D = x) (hx : 9223372036854775808 < x) (bl : Bool) : dvBig M D bl = true := by
  unfold dvBig
  rw [h]
  cases bl
  · rw [sgok_false, decide_eq_false (by omega)]; rfl
  · rw [sgok_true, decide_eq_false (by omega)]; rfl
theorem big_eq (M D : Nat) (h : M / D = 9223372036854775808) : dvBig M D false = true ∧ dvBig M D true = false := by
  unfold dvBig
  rw [h, sgok_false, sgok_true, decide_eq_false (by decide), decide_eq_true (by decide)]
  exact ⟨rfl, rfl⟩
theorem big_lt (M D x : Nat) (h : M / D = x) (hx : x < 9223372036854775808) (bl : Bool) : dvBig M D bl = false := by
  unfold dvBig
  rw [h]
  cases bl
  · rw [sgok_false, decide_eq_true (by omega)]; rfl
  · rw [sgok_true, decide_eq_true (by omega)]; rfl
end Go.Proofs.Ytjlhiagkkpjehac.word
