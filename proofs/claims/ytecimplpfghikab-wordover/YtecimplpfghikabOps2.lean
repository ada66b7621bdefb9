/- Contracts of package word's Apply at the operations bit by bit, shifts, comparisons; and that Apply answers at every operation. -/
import Derived.Test.YtecimplpfghikabOps
import Derived.Test.YtecimplpfghikabMul
namespace Go.Proofs.Ytecimplpfghikab.word
open Go.ChangeShapes Go.WideShapes Go.ChangeAt Go.RowKit
open wrapped
set_option linter.unusedVariables false
theorem abs_op (a b : Int) (w : World) : Calls Try.prog 7 #[.int .i64 3, .int .i64 a, .int .i64 b] w fun e w' => e = .returned (.tuple #[.int .i64 (if a < 0 then wrap64 (-a) else a), .int .i64 0]) ∧ w' = w := by
  by_cases h : a < 0
  · rw [if_pos h]
    go_enter Try.func7, Try.ntmps7
    go_wp2
    go_ret2
    exact ⟨rfl, rfl⟩
  · rw [if_neg h]
    have h2 : 0 ≤ a := by omega
    go_enter Try.func7, Try.ntmps7
    go_wp2
    go_ret2
    exact ⟨rfl, rfl⟩
theorem bool_op (a b : Int) (w : World) : Calls Try.prog 7 #[.int .i64 8, .int .i64 a, .int .i64 b] w fun e w' => e = .returned (.tuple #[.int .i64 (if a = 0 then 0 else 1), .int .i64 0]) ∧ w' = w := by
  by_cases h : a = 0
  · rw [if_pos h]
    have h2 : (a != 0) = false := by simp [h]
    clear h
    go_enter Try.func7, Try.ntmps7
    go_wp2
    go_ret2
    exact ⟨rfl, rfl⟩
  · rw [if_neg h]
    have h2 : (a != 0) = true := by simp [h]
    clear h
    go_enter Try.func7, Try.ntmps7
    go_wp2
    go_ret2
    exact ⟨rfl, rfl⟩
theorem no_op1 (a b : Int) (w : World) : Calls Try.prog 7 #[.int .i64 9, .int .i64 a, .int .i64 b] w fun e w' => e = .returned (.tuple #[.int .i64 (if a = 0 then 1 else 0), .int .i64 0]) ∧ w' = w := by
  by_cases h : a = 0
  · rw [if_pos h]
    have h2 : (a == 0) = true := by simp [h]
    clear h
    go_enter Try.func7, Try.ntmps7
    go_wp2
    go_ret2
    exact ⟨rfl, rfl⟩
  · rw [if_neg h]
    have h2 : (a == 0) = false := by simp [h]
    clear h
    go_enter Try.func7, Try.ntmps7
    go_wp2
    go_ret2
    exact ⟨rfl, rfl⟩
theorem and_op (a b : Int) (w : World) : Calls Try.prog 7 #[.int .i64 21, .int .i64 a, .int .i64 b] w fun e w' => e = .returned (.tuple #[.int .i64 (bits BinOp.and IntKind.i64 a b), .int .i64 0]) ∧ w' = w := by
  go_enter Try.func7, Try.ntmps7
  go_wp2
  go_ret2
  exact ⟨rfl, rfl⟩
theorem or_op (a b : Int) (w : World) : Calls Try.prog 7 #[.int .i64 22, .int .i64 a, .int .i64 b] w fun e w' => e = .returned (.tuple #[.int .i64 (bits BinOp.or IntKind.i64 a b), .int .i64 0]) ∧ w' = w := by
  go_enter Try.func7, Try.ntmps7
  go_wp2
  go_ret2
  exact ⟨rfl, rfl⟩
theorem xor_op (a b : Int) (w : World) : Calls Try.prog 7 #[.int .i64 23, .int .i64 a, .int .i64 b] w fun e w' => e = .returned (.tuple #[.int .i64 (bits BinOp.xor IntKind.i64 a b), .int .i64 0]) ∧ w' = w := by
  go_enter Try.func7, Try.ntmps7
  go_wp2
  go_ret2
  exact ⟨rfl, rfl⟩
theorem clear_op (a b : Int) (w : World) : Calls Try.prog 7 #[.int .i64 24, .int .i64 a, .int .i64 b] w fun e w' => e = .returned (.tuple #[.int .i64 (bits BinOp.and IntKind.i64 a (bits BinOp.xor IntKind.i64 (-1) b)), .int .i64 0]) ∧ w' = w := by
  go_enter Try.func7, Try.ntmps7
  go_wp2
  go_ret2
  exact ⟨rfl, rfl⟩
theorem shl_neg (a b : Int) (w : World) (h : b < 0) : Calls Try.prog 7 #[.int .i64 25, .int .i64 a, .int .i64 b] w fun e w' => e = .returned (.tuple #[.int .i64 (0), .int .i64 21]) ∧ w' = w := by
  go_enter Try.func7, Try.ntmps7
  go_wp2
  go_ret2
  exact ⟨rfl, rfl⟩
theorem shl_op (a b : Int) (w : World) (h : 0 ≤ b) (h2 : b ≤ 9223372036854775807) : Calls Try.prog 7 #[.int .i64 25, .int .i64 a, .int .i64 b] w fun e w' => e = .returned (.tuple #[.int .i64 (wrap64 (a * 2 ^ min (b).toNat 64)), .int .i64 0]) ∧ w' = w := by
  go_enter Try.func7, Try.ntmps7
  go_wp2
  go_ret2
  exact ⟨rfl, rfl⟩
theorem shr_neg (a b : Int) (w : World) (h : b < 0) : Calls Try.prog 7 #[.int .i64 26, .int .i64 a, .int .i64 b] w fun e w' => e = .returned (.tuple #[.int .i64 (0), .int .i64 21]) ∧ w' = w := by
  go_enter Try.func7, Try.ntmps7
  go_wp2
  go_ret2
  exact ⟨rfl, rfl⟩
theorem shr_op (a b : Int) (w : World) (h : 0 ≤ b) (h2 : b ≤ 9223372036854775807) : Calls Try.prog 7 #[.int .i64 26, .int .i64 a, .int .i64 b] w fun e w' => e = .returned (.tuple #[.int .i64 (a / 2 ^ min (b).toNat 64), .int .i64 0]) ∧ w' = w := by
  go_enter Try.func7, Try.ntmps7
  go_wp2
  go_ret2
  exact ⟨rfl, rfl⟩
theorem ushr_neg (a b : Int) (w : World) (h : b < 0) : Calls Try.prog 7 #[.int .i64 27, .int .i64 a, .int .i64 b] w fun e w' => e = .returned (.tuple #[.int .i64 (0), .int .i64 21]) ∧ w' = w := by
  go_enter Try.func7, Try.ntmps7
  go_wp2
  go_ret2
  exact ⟨rfl, rfl⟩
theorem ushr_op (a b : Int) (w : World) (h : 0 ≤ b) (h2 : b ≤ 9223372036854775807) : Calls Try.prog 7 #[.int .i64 27, .int .i64 a, .int .i64 b] w fun e w' => e = .returned (.tuple #[.int .i64 (wrap64 (IntKind.u64.wrap a / 2 ^ min (b).toNat 64)), .int .i64 0]) ∧ w' = w := by
  go_enter Try.func7, Try.ntmps7
  go_wp2
  go_ret2
  exact ⟨rfl, rfl⟩
theorem eq_op (a b : Int) (w : World) : Calls Try.prog 7 #[.int .i64 29, .int .i64 a, .int .i64 b] w fun e w' => e = .returned (.tuple #[.int .i64 (if a = b then 1 else 0), .int .i64 0]) ∧ w' = w := by
  by_cases h : a = b
  · rw [if_pos h]
    have h2 : (a == b) = true := by simp [h]
    clear h
    go_enter Try.func7, Try.ntmps7
    go_wp2
    go_ret2
    exact ⟨rfl, rfl⟩
  · rw [if_neg h]
    have h2 : (a == b) = false := by simp [h]
    clear h
    go_enter Try.func7, Try.ntmps7
    go_wp2
    go_ret2
    exact ⟨rfl, rfl⟩
theorem ne_op (a b : Int) (w : World) : Calls Try.prog 7 #[.int .i64 30, .int .i64 a, .int .i64 b] w fun e w' => e = .returned (.tuple #[.int .i64 (if a = b then 0 else 1), .int .i64 0]) ∧ w' = w := by
  by_cases h : a = b
  · rw [if_pos h]
    have h2 : (a != b) = false := by simp [h]
    clear h
    go_enter Try.func7, Try.ntmps7
    go_wp2
    go_ret2
    exact ⟨rfl, rfl⟩
  · rw [if_neg h]
    have h2 : (a != b) = true := by simp [h]
    clear h
    go_enter Try.func7, Try.ntmps7
    go_wp2
    go_ret2
    exact ⟨rfl, rfl⟩
theorem lt_op (a b : Int) (w : World) : Calls Try.prog 7 #[.int .i64 31, .int .i64 a, .int .i64 b] w fun e w' => e = .returned (.tuple #[.int .i64 (if a < b then 1 else 0), .int .i64 0]) ∧ w' = w := by
  by_cases h : a < b
  · rw [if_pos h]
    go_enter Try.func7, Try.ntmps7
    go_wp2
    go_ret2
    exact ⟨rfl, rfl⟩
  · rw [if_neg h]
    have h2 : b ≤ a := by omega
    go_enter Try.func7, Try.ntmps7
    go_wp2
    go_ret2
    exact ⟨rfl, rfl⟩
theorem le_op (a b : Int) (w : World) : Calls Try.prog 7 #[.int .i64 32, .int .i64 a, .int .i64 b] w fun e w' => e = .returned (.tuple #[.int .i64 (if a ≤ b then 1 else 0), .int .i64 0]) ∧ w' = w := by
  by_cases h : a ≤ b
  · rw [if_pos h]
    go_enter Try.func7, Try.ntmps7
    go_wp2
    go_ret2
    exact ⟨rfl, rfl⟩
  · rw [if_neg h]
    have h2 : b < a := by omega
    go_enter Try.func7, Try.ntmps7
    go_wp2
    go_ret2
    exact ⟨rfl, rfl⟩
theorem ult_op (a b : Int) (w : World) : Calls Try.prog 7 #[.int .i64 33, .int .i64 a, .int .i64 b] w fun e w' => e = .returned (.tuple #[.int .i64 (if bits BinOp.xor IntKind.i64 a (-9223372036854775808) < bits BinOp.xor IntKind.i64 b (-9223372036854775808) then 1 else 0), .int .i64 0]) ∧ w' = w := by
  by_cases h : bits BinOp.xor IntKind.i64 a (-9223372036854775808) < bits BinOp.xor IntKind.i64 b (-9223372036854775808)
  · rw [if_pos h]
    go_enter Try.func7, Try.ntmps7
    go_wp2
    go_ret2
    exact ⟨rfl, rfl⟩
  · rw [if_neg h]
    have h2 := Int.not_lt.1 h
    go_enter Try.func7, Try.ntmps7
    go_wp2
    go_ret2
    exact ⟨rfl, rfl⟩
theorem min_op (a b : Int) (w : World) : Calls Try.prog 7 #[.int .i64 34, .int .i64 a, .int .i64 b] w fun e w' => e = .returned (.tuple #[.int .i64 (if b < a then b else a), .int .i64 0]) ∧ w' = w := by
  by_cases h : b < a
  · rw [if_pos h]
    go_enter Try.func7, Try.ntmps7
    go_wp2
    go_ret2
    exact ⟨rfl, rfl⟩
  · rw [if_neg h]
    have h2 : a ≤ b := by omega
    go_enter Try.func7, Try.ntmps7
    go_wp2
    go_ret2
    exact ⟨rfl, rfl⟩
theorem max_op (a b : Int) (w : World) : Calls Try.prog 7 #[.int .i64 35, .int .i64 a, .int .i64 b] w fun e w' => e = .returned (.tuple #[.int .i64 (if a < b then b else a), .int .i64 0]) ∧ w' = w := by
  by_cases h : a < b
  · rw [if_pos h]
    go_enter Try.func7, Try.ntmps7
    go_wp2
    go_ret2
    exact ⟨rfl, rfl⟩
  · rw [if_neg h]
    have h2 : b ≤ a := by omega
    go_enter Try.func7, Try.ntmps7
    go_wp2
    go_ret2
    exact ⟨rfl, rfl⟩

/-- Apply answers, and changes nothing, whatever it is asked. -/
theorem answers (k a b : Int) (la : -9223372036854775808 ≤ a) (ha : a ≤ 9223372036854775807) (lb : -9223372036854775808 ≤ b) (hb : b ≤ 9223372036854775807) (w : World) :
    Calls Try.prog 7 #[.int .i64 k, .int .i64 a, .int .i64 b] w fun e w' => ∃ x y : Int, e = .returned (.tuple #[.int .i64 x, .int .i64 y]) ∧ w' = w := by
  have go : ∀ {x y : Int}, (Calls Try.prog 7 #[.int .i64 k, .int .i64 a, .int .i64 b] w fun e w' => e = .returned (.tuple #[.int .i64 x, .int .i64 y]) ∧ w' = w) →
      Calls Try.prog 7 #[.int .i64 k, .int .i64 a, .int .i64 b] w fun e w' => ∃ x y : Int, e = .returned (.tuple #[.int .i64 x, .int .i64 y]) ∧ w' = w :=
    fun h => h.mono fun e w' ⟨h1, h2⟩ => ⟨_, _, h1, h2⟩
  by_cases h1 : k < 1 ∨ 36 < k
  · exact go (no_op k a b w h1)
  have hk : ∃ n : Nat, k = n ∧ 1 ≤ n ∧ n ≤ 36 := ⟨k.toNat, by omega, by omega, by omega⟩
  obtain ⟨n, rfl, hn1, hn2⟩ := hk
  clear h1
  have hc : n = 1 ∨ n = 2 ∨ n = 3 ∨ n = 4 ∨ n = 5 ∨ n = 6 ∨ n = 7 ∨ n = 8 ∨ n = 9 ∨ n = 10 ∨ n = 11 ∨ n = 12 ∨ n = 13 ∨ n = 14 ∨ n = 15 ∨ n = 16 ∨ n = 17 ∨ n = 18 ∨ n = 19 ∨ n = 20 ∨ n = 21 ∨ n = 22 ∨ n = 23 ∨ n = 24 ∨ n = 25 ∨ n = 26 ∨ n = 27 ∨ n = 28 ∨ n = 29 ∨ n = 30 ∨ n = 31 ∨ n = 32 ∨ n = 33 ∨ n = 34 ∨ n = 35 ∨ n = 36 := by omega
  rcases hc with rfl | rfl | rfl | rfl | rfl | rfl | rfl | rfl | rfl | rfl | rfl | rfl | rfl | rfl | rfl | rfl | rfl | rfl | rfl | rfl | rfl | rfl | rfl | rfl | rfl | rfl | rfl | rfl | rfl | rfl | rfl | rfl | rfl | rfl | rfl | rfl
  · exact go (neg_any a b w)
  · exact go (not_any a b w)
  · exact go (abs_op a b w)
  · exact go (ones_op a b w)
  · exact (lead_op a b w).mono fun e w' ⟨n, _, h1, h2⟩ => ⟨_, _, h1, h2⟩
  · exact (trail_op a b w).mono fun e w' ⟨n, _, h1, h2⟩ => ⟨_, _, h1, h2⟩
  · exact go (flip_op a b w)
  · exact go (bool_op a b w)
  · exact go (no_op1 a b w)
  · exact go (i8_any a b w)
  · exact go (i16_any a b w)
  · exact go (i32_any a b w)
  · exact go (u8_any a b w)
  · exact go (u16_any a b w)
  · exact go (u32_any a b w)
  · exact go (add_any a b w)
  · exact go (sub_any a b w)
  · exact go (mul_any a b w)
  · by_cases hz : b = 0
    · exact go (div_zero a b w hz)
    · exact go (div_any a b w (by simpa using hz) hz)
  · by_cases hz : b = 0
    · exact go (rem_zero a b w hz)
    · exact go (rem_any a b w (by simpa using hz) hz)
  · exact go (and_op a b w)
  · exact go (or_op a b w)
  · exact go (xor_op a b w)
  · exact go (clear_op a b w)
  · by_cases hz : b < 0
    · exact go (shl_neg a b w hz)
    · exact go (shl_op a b w (by omega) hb)
  · by_cases hz : b < 0
    · exact go (shr_neg a b w hz)
    · exact go (shr_op a b w (by omega) hb)
  · by_cases hz : b < 0
    · exact go (ushr_neg a b w hz)
    · exact go (ushr_op a b w (by omega) hb)
  · exact go (rotl_any a b w)
  · exact go (eq_op a b w)
  · exact go (ne_op a b w)
  · exact go (lt_op a b w)
  · exact go (le_op a b w)
  · exact go (ult_op a b w)
  · exact go (min_op a b w)
  · exact go (max_op a b w)
  · exact go (high_op a b la ha lb hb w)
end Go.Proofs.Ytecimplpfghikab.word
