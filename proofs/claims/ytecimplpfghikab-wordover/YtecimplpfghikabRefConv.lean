/- What the document's own answer makes of conversions (scarabref02.one at 10 to 15, Fits): contracts. -/
import Derived.Test.YtecimplpfghikabRefPut
import Derived.Test.YtecimplpfghikabConv
namespace Go.Proofs.Ytecimplpfghikab.word
open Go.ChangeShapes Go.WideShapes Go.ChangeAt Go.RowKit
open wrapped
set_option linter.unusedVariables false
theorem cb_cv10 (a : Int) : wrap64 (cb a 8 (if true = true then 1 else 0) 64) = cv 10 a := by
  show wrap64 (cb a 8 1 64) = (a + 128) % 256 - 128
  unfold cb bitOf
  rw [if_neg (by decide)]
  simp only [show (2 : Int) ^ 8 = 256 from by decide, show (2 : Int) ^ 64 = 18446744073709551616 from by decide, show (2 : Int) ^ (8 - 1) = 128 from by decide]
  have hv : a / 128 % 2 = 0 ∨ a / 128 % 2 = 1 := by omega
  rcases hv with e | e
  · rw [e, Int.mul_zero, Int.zero_mul, Int.add_zero, wrap64_id _ (by omega) (by omega)]; omega
  · rw [e, wrap64_of _ (a % 256 - 256) 1 (by omega), wrap64_id _ (by omega) (by omega)]; omega
theorem refone10 (a : Int) (w : World) : Calls Try.prog 23 #[.int .i64 10, .int .i64 a] w fun e w' => e = .returned (.int .i64 (cv 10 a)) ∧ w' = w := by
  have h := refconv_any a 8 true (by decide) (by decide)
  rw [cb_cv10] at h
  go_enter Try.func23, Try.ntmps23
  go_wp2_with (go_at_call 34; refine (h _).mono ?_; rintro e w' ⟨rfl, rfl⟩)
  go_ret
  exact ⟨rfl, rfl⟩
theorem cb_cv11 (a : Int) : wrap64 (cb a 16 (if true = true then 1 else 0) 64) = cv 11 a := by
  show wrap64 (cb a 16 1 64) = (a + 32768) % 65536 - 32768
  unfold cb bitOf
  rw [if_neg (by decide)]
  simp only [show (2 : Int) ^ 16 = 65536 from by decide, show (2 : Int) ^ 64 = 18446744073709551616 from by decide, show (2 : Int) ^ (16 - 1) = 32768 from by decide]
  have hv : a / 32768 % 2 = 0 ∨ a / 32768 % 2 = 1 := by omega
  rcases hv with e | e
  · rw [e, Int.mul_zero, Int.zero_mul, Int.add_zero, wrap64_id _ (by omega) (by omega)]; omega
  · rw [e, wrap64_of _ (a % 65536 - 65536) 1 (by omega), wrap64_id _ (by omega) (by omega)]; omega
theorem refone11 (a : Int) (w : World) : Calls Try.prog 23 #[.int .i64 11, .int .i64 a] w fun e w' => e = .returned (.int .i64 (cv 11 a)) ∧ w' = w := by
  have h := refconv_any a 16 true (by decide) (by decide)
  rw [cb_cv11] at h
  go_enter Try.func23, Try.ntmps23
  go_wp2_with (go_at_call 34; refine (h _).mono ?_; rintro e w' ⟨rfl, rfl⟩)
  go_ret
  exact ⟨rfl, rfl⟩
theorem cb_cv12 (a : Int) : wrap64 (cb a 32 (if true = true then 1 else 0) 64) = cv 12 a := by
  show wrap64 (cb a 32 1 64) = (a + 2147483648) % 4294967296 - 2147483648
  unfold cb bitOf
  rw [if_neg (by decide)]
  simp only [show (2 : Int) ^ 32 = 4294967296 from by decide, show (2 : Int) ^ 64 = 18446744073709551616 from by decide, show (2 : Int) ^ (32 - 1) = 2147483648 from by decide]
  have hv : a / 2147483648 % 2 = 0 ∨ a / 2147483648 % 2 = 1 := by omega
  rcases hv with e | e
  · rw [e, Int.mul_zero, Int.zero_mul, Int.add_zero, wrap64_id _ (by omega) (by omega)]; omega
  · rw [e, wrap64_of _ (a % 4294967296 - 4294967296) 1 (by omega), wrap64_id _ (by omega) (by omega)]; omega
theorem refone12 (a : Int) (w : World) : Calls Try.prog 23 #[.int .i64 12, .int .i64 a] w fun e w' => e = .returned (.int .i64 (cv 12 a)) ∧ w' = w := by
  have h := refconv_any a 32 true (by decide) (by decide)
  rw [cb_cv12] at h
  go_enter Try.func23, Try.ntmps23
  go_wp2_with (go_at_call 34; refine (h _).mono ?_; rintro e w' ⟨rfl, rfl⟩)
  go_ret
  exact ⟨rfl, rfl⟩
theorem cb_cv13 (a : Int) : wrap64 (cb a 8 (if false = true then 1 else 0) 64) = cv 13 a := by
  show wrap64 (cb a 8 0 64) = a % 256
  unfold cb bitOf
  rw [if_neg (by decide)]
  simp only [show (2 : Int) ^ 8 = 256 from by decide, show (2 : Int) ^ 64 = 18446744073709551616 from by decide, show (2 : Int) ^ (8 - 1) = 128 from by decide]
  unfold wrap64
  omega
theorem refone13 (a : Int) (w : World) : Calls Try.prog 23 #[.int .i64 13, .int .i64 a] w fun e w' => e = .returned (.int .i64 (cv 13 a)) ∧ w' = w := by
  have h := refconv_any a 8 false (by decide) (by decide)
  rw [cb_cv13] at h
  go_enter Try.func23, Try.ntmps23
  go_wp2_with (go_at_call 34; refine (h _).mono ?_; rintro e w' ⟨rfl, rfl⟩)
  go_ret
  exact ⟨rfl, rfl⟩
theorem cb_cv14 (a : Int) : wrap64 (cb a 16 (if false = true then 1 else 0) 64) = cv 14 a := by
  show wrap64 (cb a 16 0 64) = a % 65536
  unfold cb bitOf
  rw [if_neg (by decide)]
  simp only [show (2 : Int) ^ 16 = 65536 from by decide, show (2 : Int) ^ 64 = 18446744073709551616 from by decide, show (2 : Int) ^ (16 - 1) = 32768 from by decide]
  unfold wrap64
  omega
theorem refone14 (a : Int) (w : World) : Calls Try.prog 23 #[.int .i64 14, .int .i64 a] w fun e w' => e = .returned (.int .i64 (cv 14 a)) ∧ w' = w := by
  have h := refconv_any a 16 false (by decide) (by decide)
  rw [cb_cv14] at h
  go_enter Try.func23, Try.ntmps23
  go_wp2_with (go_at_call 34; refine (h _).mono ?_; rintro e w' ⟨rfl, rfl⟩)
  go_ret
  exact ⟨rfl, rfl⟩
theorem cb_cv15 (a : Int) : wrap64 (cb a 32 (if false = true then 1 else 0) 64) = cv 15 a := by
  show wrap64 (cb a 32 0 64) = a % 4294967296
  unfold cb bitOf
  rw [if_neg (by decide)]
  simp only [show (2 : Int) ^ 32 = 4294967296 from by decide, show (2 : Int) ^ 64 = 18446744073709551616 from by decide, show (2 : Int) ^ (32 - 1) = 2147483648 from by decide]
  unfold wrap64
  omega
theorem refone15 (a : Int) (w : World) : Calls Try.prog 23 #[.int .i64 15, .int .i64 a] w fun e w' => e = .returned (.int .i64 (cv 15 a)) ∧ w' = w := by
  have h := refconv_any a 32 false (by decide) (by decide)
  rw [cb_cv15] at h
  go_enter Try.func23, Try.ntmps23
  go_wp2_with (go_at_call 34; refine (h _).mono ?_; rintro e w' ⟨rfl, rfl⟩)
  go_ret
  exact ⟨rfl, rfl⟩
theorem refone_conv (k a : Int) (h : 10 ≤ k) (g : k ≤ 15) (w : World) : Calls Try.prog 23 #[.int .i64 k, .int .i64 a] w fun e w' => e = .returned (.int .i64 (cv k a)) ∧ w' = w := by
  rcases conv_cases k h g with rfl | rfl | rfl | rfl | rfl | rfl
  · exact refone10 a w
  · exact refone11 a w
  · exact refone12 a w
  · exact refone13 a w
  · exact refone14 a w
  · exact refone15 a w
end Go.Proofs.Ytecimplpfghikab.word
