/- math/bits.Div64 whole: the quotient and the rest of two words by a greater one than the first. -/
import Derived.Test.YtjlhiagkkpjehacDiv
namespace Go.Proofs.Ytjlhiagkkpjehac.word
open Go.ChangeShapes Go.WideShapes Go.ChangeAt Go.RowKit
open wrapped
set_option linter.unusedVariables false
theorem bitLen_lt (y : Nat) (hy : y < 2 ^ 64) : y < 2 ^ Lib.bitLen y ∧ (y ≠ 0 → 2 ^ Lib.bitLen y ≤ 2 * y ∧ 1 ≤ Lib.bitLen y) := by
  induction y using Nat.strongRecOn with
  | ind y ih =>
    by_cases h0 : y = 0
    · subst h0; exact ⟨Nat.two_pow_pos _, fun h => absurd rfl h⟩
    · have e := Lib.bitLen_half y h0 hy
      obtain ⟨i1, i2⟩ := ih (y / 2) (by omega) (by omega)
      rw [e, Nat.pow_add]
      refine ⟨by omega, fun _ => ⟨?_, by omega⟩⟩
      by_cases h1 : y / 2 = 0
      · have : y = 1 := by omega
        subst this
        have : Lib.bitLen (1 / 2) = 0 := by decide
        rw [this]; decide
      · have := (i2 h1).1; omega
theorem two_steps (U Y d1 d0 Q V Q2 W : Nat) (hY : 0 < Y) (h1 : (U * 4294967296 + d1) / Y = Q) (h2 : (U * 4294967296 + d1) % Y = V) (h3 : (V * 4294967296 + d0) / Y = Q2) (h4 : (V * 4294967296 + d0) % Y = W) :
    (U * 18446744073709551616 + (d1 * 4294967296 + d0)) / Y = Q * 4294967296 + Q2 ∧ (U * 18446744073709551616 + (d1 * 4294967296 + d0)) % Y = W := by
  have e1 := Nat.div_add_mod' (U * 4294967296 + d1) Y
  have e2 := Nat.div_add_mod' (V * 4294967296 + d0) Y
  rw [h1, h2] at e1
  rw [h3, h4] at e2
  have hW : W < Y := by rw [← h4]; exact Nat.mod_lt _ hY
  have e : U * 18446744073709551616 + (d1 * 4294967296 + d0) = W + Y * (Q * 4294967296 + Q2) := by
    rw [Nat.mul_add, ← Nat.mul_assoc, Nat.mul_comm Y Q, Nat.mul_comm Y Q2]
    generalize Q * Y = m at e1 ⊢
    generalize Q2 * Y = n at e2 ⊢
    omega
  rw [e]
  refine ⟨?_, ?_⟩
  · rw [Nat.add_mul_div_left _ _ hY, Nat.div_eq_of_lt hW, Nat.zero_add]
  · rw [Nat.add_mul_mod_self_left, Nat.mod_eq_of_lt hW]
theorem div64_any (hi lo y : Nat) (hhy : hi < y) (hl : lo < 18446744073709551616) (hy : y < 18446744073709551616) (w : World) :
    Calls Try.prog 22 #[.int .u64 hi, .int .u64 lo, .int .u64 y] w fun e w' => ∃ n, e = .returned (.tuple #[.int .u64 (((hi * 18446744073709551616 + lo) / y : Nat) : Int), .int .u64 (((hi * 18446744073709551616 + lo) % y : Nat) : Int)]) ∧ w' = w.drewN n := by
  by_cases hh : hi = 0
  · subst hh
    have h := div64_low lo y hl hy (by omega) w
    rw [show 0 * 18446744073709551616 + lo = lo by omega]
    exact h
  · have p64 : (2 : Nat) ^ 64 = 18446744073709551616 := by decide
    obtain ⟨b1, b2⟩ := bitLen_lt y (by rw [p64]; exact hy)
    obtain ⟨b3, b4⟩ := b2 (by omega)
    have b5 : Lib.bitLen y ≤ 64 := Lib.bitLen_le _ 64 (by decide) (by rw [p64]; exact hy)
    obtain ⟨s, hs⟩ : ∃ s, 64 - Lib.bitLen y = s := ⟨_, rfl⟩
    have hls := lead64_any y hy
    rw [hs] at hls
    have hs64 : s < 64 := by omega
    have pw : (2 : Nat) ^ Lib.bitLen y * 2 ^ s = 18446744073709551616 := by rw [← Nat.pow_add, ← p64]; congr 1; omega
    have hS : 0 < (2 : Nat) ^ s := Nat.two_pow_pos s
    have hYlt : y * 2 ^ s < 18446744073709551616 := by rw [← pw]; exact Nat.mul_lt_mul_of_pos_right b1 hS
    have hYge : 18446744073709551616 ≤ 2 * (y * 2 ^ s) := by rw [← pw, ← Nat.mul_assoc]; exact Nat.mul_le_mul_right _ b3
    have pT : (2 : Nat) ^ (64 - s) * 2 ^ s = 18446744073709551616 := by rw [← Nat.pow_add, ← p64]; congr 1; omega
    have cS : ((2 ^ s : Nat) : Int) = (2 : Int) ^ s := by simp [Int.natCast_pow]
    have cT : ((2 ^ (64 - s) : Nat) : Int) = (2 : Int) ^ (64 - s) := by simp [Int.natCast_pow]
    have hT : 0 < (2 : Nat) ^ (64 - s) := Nat.two_pow_pos _
    -- the low word's high bits
    have hX : lo / 2 ^ (64 - s) < 2 ^ s := by rw [Nat.div_lt_iff_lt_mul hT, Nat.mul_comm, pT]; exact hl
    have hLo : lo * 2 ^ s = lo / 2 ^ (64 - s) * 18446744073709551616 + lo * 2 ^ s % 18446744073709551616 := by
      have e1 := Nat.div_add_mod' (lo * 2 ^ s) 18446744073709551616
      have e2 : lo * 2 ^ s / 18446744073709551616 = lo / 2 ^ (64 - s) := by rw [← pT, Nat.mul_div_mul_right _ _ hS]
      rw [e2] at e1
      exact e1.symm
    have hhi : hi * 2 ^ s < y * 2 ^ s := Nat.mul_lt_mul_of_pos_right hhy hS
    have hN : (hi * 18446744073709551616 + lo) * 2 ^ s = (hi * 2 ^ s + lo / 2 ^ (64 - s)) * 18446744073709551616 + lo * 2 ^ s % 18446744073709551616 := by
      rw [Nat.add_mul, Nat.add_mul, Nat.mul_right_comm]
      omega
    have f1 : IntKind.u64.wrap ((y : Int) * 2 ^ s) = ((y * 2 ^ s : Nat) : Int) := uwrap_nat _ _ (by rw [← cS, ← Int.natCast_mul]; omega)
    have f2 : bits .or .u64 (IntKind.u64.wrap ((hi : Int) * 2 ^ s)) ((lo : Int) / 2 ^ (64 - s)) = ((hi * 2 ^ s + lo / 2 ^ (64 - s) : Nat) : Int) := by
      rw [uwrap_nat ((hi : Int) * 2 ^ s) (hi * 2 ^ s) (by rw [← cS, ← Int.natCast_mul]; omega), ← cT, ← Int.natCast_ediv]
      rw [u64_or_nat _ _ (by omega) (by have := Nat.div_le_self lo (2 ^ (64 - s)); omega)]
      congr 1
      rw [Nat.mul_comm hi]
      exact (Nat.two_pow_add_eq_or_of_lt hX hi).symm
    have f3 : IntKind.u64.wrap ((lo : Int) * 2 ^ s) = ((lo * 2 ^ s % 18446744073709551616 : Nat) : Int) := uwrap_nat _ _ (by rw [← cS, ← Int.natCast_mul]; omega)
    have hUY : hi * 2 ^ s + lo / 2 ^ (64 - s) < y * 2 ^ s := by
      have h5 : (hi * 18446744073709551616 + lo) * 2 ^ s < y * 18446744073709551616 * 2 ^ s := Nat.mul_lt_mul_of_pos_right (by omega) hS
      rw [hN, Nat.mul_right_comm] at h5
      omega
    have hdivY : (hi * 18446744073709551616 + lo) * 2 ^ s / (y * 2 ^ s) = (hi * 18446744073709551616 + lo) / y := Nat.mul_div_mul_right _ _ hS
    have hmodY : (hi * 18446744073709551616 + lo) * 2 ^ s % (y * 2 ^ s) = (hi * 18446744073709551616 + lo) % y * 2 ^ s := Nat.mul_mod_mul_right _ _ _
    rw [hN] at hdivY hmodY
    generalize hYv : y * 2 ^ s = Y at *
    generalize hUv : hi * 2 ^ s + lo / 2 ^ (64 - s) = U at *
    generalize hLv : lo * 2 ^ s % 18446744073709551616 = L at *
    have hL : L < 18446744073709551616 := by rw [← hLv]; exact Nat.mod_lt _ (by decide)
    have ts := two_steps U Y (L / 4294967296) (L % 4294967296) _ _ _ _ (by omega) rfl rfl rfl rfl
    rw [show L / 4294967296 * 4294967296 + L % 4294967296 = L by omega] at ts
    have c := div64_high hi lo y s Y U L (Y / 4294967296) (Y % 4294967296) (L % 4294967296) (L / 4294967296) _ _ _ _ (by omega) hhy hl hy hs64 hls f1 f2 f3
      (by rw [and_low32 _ (by omega) (by omega)]; omega) (by rw [and_low32 _ (by omega) (by omega)]; omega) (by omega) (by omega) (by omega) (by omega) (by omega) (by omega) (by omega) (show Y = Y / 4294967296 * 4294967296 + Y % 4294967296 by omega) hUY (by omega) rfl rfl rfl rfl w
    rw [← ts.1, ← ts.2, hdivY, hmodY] at c
    refine c.mono fun e w' ⟨h1, h2⟩ => ⟨0, ?_, h2⟩
    rw [h1]
    refine ret_two rfl ?_
    rw [← cS, ← Int.natCast_ediv, Nat.mul_div_cancel _ hS]
end Go.Proofs.Ytjlhiagkkpjehac.word
