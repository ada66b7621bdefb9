/- What the document's own answer makes of conversions (scarabref02.one at 10 to 15, Fits): contracts. -/
import Derived.Test.YtjcmhaaohdmjpaaDoorM12
import Derived.Test.YtjcmhaaohdmjpaaDoorM15
import Derived.Test.YtjcmhaaohdmjpaaDoorRows
import Derived.Test.YtjcmhaaohdmjpaaDoorM11
import Derived.Laws.MathBits
import Derived.Lib.Mul64
import Derived.WalkKit
import Derived.ProofKit
import Derived.OpenShut
import Derived.WalkSpells
import Derived.WalkLawsBesides
import Derived.Test.YtjcmhaaohdmjpaaDoorM14
namespace Go.Proofs.YtjcmhaaohdmjpaaDoor.word
open Go.ChangeShapes Go.WideShapes Go.ChangeAt Go.RowKit
open wrapped
set_option linter.unusedVariables false
theorem cb_cv10 (a : Int) : wrap64 (cb a 8 (if true = true then 1 else 0) 64) = cv 10 a := by
  show wrap64 (cb a 8 1 64) = (a + 128) % 256 - 128
  unfold cb bitOf
  rw [if_neg (by decide)]
  simp only [show (2 : Int) ^ 8 = 256 from by decide, show (2 : Int) ^ 64 = 18446744073709551616 from by decide, show (2 : Int) ^ (8 - 1) = 128 from by decide]
  have hv : a / 128 % 2 = 0 ∨ a / 128 % 2 = 1 := by omega
  rcases hv with e | e
  · rw [e, Int.mul_zero, Int.zero_mul, Int.add_zero, wrap64_id _ (by omega) (by omega)]; omega
  · rw [e, wrap64_of _ (a % 256 - 256) 1 (by omega), wrap64_id _ (by omega) (by omega)]; omega
theorem refone10 (a : Int) (w : World) : Calls Tryd.prog 57 #[.int .i64 10, .int .i64 a] w fun e w' => e = .returned (.int .i64 (cv 10 a)) ∧ w' = w := by
  have h := refconv_any a 8 true (by decide) (by decide)
  rw [cb_cv10] at h
  go_enter Tryd.func57, Tryd.ntmps57
  go_wp2_with (go_at_call 78; refine (h _).mono ?_; rintro e w' ⟨rfl, rfl⟩)
  go_ret
  exact ⟨rfl, rfl⟩
theorem cb_cv11 (a : Int) : wrap64 (cb a 16 (if true = true then 1 else 0) 64) = cv 11 a := by
  show wrap64 (cb a 16 1 64) = (a + 32768) % 65536 - 32768
  unfold cb bitOf
  rw [if_neg (by decide)]
  simp only [show (2 : Int) ^ 16 = 65536 from by decide, show (2 : Int) ^ 64 = 18446744073709551616 from by decide, show (2 : Int) ^ (16 - 1) = 32768 from by decide]
  have hv : a / 32768 % 2 = 0 ∨ a / 32768 % 2 = 1 := by omega
  rcases hv with e | e
  · rw [e, Int.mul_zero, Int.zero_mul, Int.add_zero, wrap64_id _ (by omega) (by omega)]; omega
  · rw [e, wrap64_of _ (a % 65536 - 65536) 1 (by omega), wrap64_id _ (by omega) (by omega)]; omega
theorem refone11 (a : Int) (w : World) : Calls Tryd.prog 57 #[.int .i64 11, .int .i64 a] w fun e w' => e = .returned (.int .i64 (cv 11 a)) ∧ w' = w := by
  have h := refconv_any a 16 true (by decide) (by decide)
  rw [cb_cv11] at h
  go_enter Tryd.func57, Tryd.ntmps57
  go_wp2_with (go_at_call 78; refine (h _).mono ?_; rintro e w' ⟨rfl, rfl⟩)
  go_ret
  exact ⟨rfl, rfl⟩
theorem cb_cv12 (a : Int) : wrap64 (cb a 32 (if true = true then 1 else 0) 64) = cv 12 a := by
  show wrap64 (cb a 32 1 64) = (a + 2147483648) % 4294967296 - 2147483648
  unfold cb bitOf
  rw [if_neg (by decide)]
  simp only [show (2 : Int) ^ 32 = 4294967296 from by decide, show (2 : Int) ^ 64 = 18446744073709551616 from by decide, show (2 : Int) ^ (32 - 1) = 2147483648 from by decide]
  have hv : a / 2147483648 % 2 = 0 ∨ a / 2147483648 % 2 = 1 := by omega
  rcases hv with e | e
  · rw [e, Int.mul_zero, Int.zero_mul, Int.add_zero, wrap64_id _ (by omega) (by omega)]; omega
  · rw [e, wrap64_of _ (a % 4294967296 - 4294967296) 1 (by omega), wrap64_id _ (by omega) (by omega)]; omega
theorem refone12 (a : Int) (w : World) : Calls Tryd.prog 57 #[.int .i64 12, .int .i64 a] w fun e w' => e = .returned (.int .i64 (cv 12 a)) ∧ w' = w := by
  have h := refconv_any a 32 true (by decide) (by decide)
  rw [cb_cv12] at h
  go_enter Tryd.func57, Tryd.ntmps57
  go_wp2_with (go_at_call 78; refine (h _).mono ?_; rintro e w' ⟨rfl, rfl⟩)
  go_ret
  exact ⟨rfl, rfl⟩
theorem cb_cv13 (a : Int) : wrap64 (cb a 8 (if false = true then 1 else 0) 64) = cv 13 a := by
  show wrap64 (cb a 8 0 64) = a % 256
  unfold cb bitOf
  rw [if_neg (by decide)]
  simp only [show (2 : Int) ^ 8 = 256 from by decide, show (2 : Int) ^ 64 = 18446744073709551616 from by decide, show (2 : Int) ^ (8 - 1) = 128 from by decide]
  unfold wrap64
  omega
theorem refone13 (a : Int) (w : World) : Calls Tryd.prog 57 #[.int .i64 13, .int .i64 a] w fun e w' => e = .returned (.int .i64 (cv 13 a)) ∧ w' = w := by
  have h := refconv_any a 8 false (by decide) (by decide)
  rw [cb_cv13] at h
  go_enter Tryd.func57, Tryd.ntmps57
  go_wp2_with (go_at_call 78; refine (h _).mono ?_; rintro e w' ⟨rfl, rfl⟩)
  go_ret
  exact ⟨rfl, rfl⟩
theorem cb_cv14 (a : Int) : wrap64 (cb a 16 (if false = true then 1 else 0) 64) = cv 14 a := by
  show wrap64 (cb a 16 0 64) = a % 65536
  unfold cb bitOf
  rw [if_neg (by decide)]
  simp only [show (2 : Int) ^ 16 = 65536 from by decide, show (2 : Int) ^ 64 = 18446744073709551616 from by decide, show (2 : Int) ^ (16 - 1) = 32768 from by decide]
  unfold wrap64
  omega
theorem refone14 (a : Int) (w : World) : Calls Tryd.prog 57 #[.int .i64 14, .int .i64 a] w fun e w' => e = .returned (.int .i64 (cv 14 a)) ∧ w' = w := by
  have h := refconv_any a 16 false (by decide) (by decide)
  rw [cb_cv14] at h
  go_enter Tryd.func57, Tryd.ntmps57
  go_wp2_with (go_at_call 78; refine (h _).mono ?_; rintro e w' ⟨rfl, rfl⟩)
  go_ret
  exact ⟨rfl, rfl⟩
theorem cb_cv15 (a : Int) : wrap64 (cb a 32 (if false = true then 1 else 0) 64) = cv 15 a := by
  show wrap64 (cb a 32 0 64) = a % 4294967296
  unfold cb bitOf
  rw [if_neg (by decide)]
  simp only [show (2 : Int) ^ 32 = 4294967296 from by decide, show (2 : Int) ^ 64 = 18446744073709551616 from by decide, show (2 : Int) ^ (32 - 1) = 2147483648 from by decide]
  unfold wrap64
  omega
theorem refone15 (a : Int) (w : World) : Calls Tryd.prog 57 #[.int .i64 15, .int .i64 a] w fun e w' => e = .returned (.int .i64 (cv 15 a)) ∧ w' = w := by
  have h := refconv_any a 32 false (by decide) (by decide)
  rw [cb_cv15] at h
  go_enter Tryd.func57, Tryd.ntmps57
  go_wp2_with (go_at_call 78; refine (h _).mono ?_; rintro e w' ⟨rfl, rfl⟩)
  go_ret
  exact ⟨rfl, rfl⟩
theorem refone_conv (k a : Int) (h : 10 ≤ k) (g : k ≤ 15) (w : World) : Calls Tryd.prog 57 #[.int .i64 k, .int .i64 a] w fun e w' => e = .returned (.int .i64 (cv k a)) ∧ w' = w := by
  rcases conv_cases k h g with rfl | rfl | rfl | rfl | rfl | rfl
  · exact refone10 a w
  · exact refone11 a w
  · exact refone12 a w
  · exact refone13 a w
  · exact refone14 a w
  · exact refone15 a w
end Go.Proofs.YtjcmhaaohdmjpaaDoor.word
/- Contract of math/bits.Mul64 and of package word's Wide. -/
namespace Go.Proofs.YtjcmhaaohdmjpaaDoor.word
open Go.ChangeShapes Go.WideShapes Go.ChangeAt Go.RowKit
open wrapped
set_option linter.unusedVariables false
theorem mul64_any (x y : Int) (hx0 : 0 ≤ x) (hx : x < 18446744073709551616) (hy0 : 0 ≤ y) (hy : y < 18446744073709551616) (w : World) : Calls Tryd.prog 93 #[.int .u64 x, .int .u64 y] w fun e w' => e = .returned (.tuple #[.int .u64 (x * y / 18446744073709551616), .int .u64 (x * y % 18446744073709551616)]) ∧ w' = w := by
  have e1 := and_low32 x hx0 hx
  have e2 := and_low32 y hy0 hy
  go_enter Tryd.func93, Tryd.ntmps93
  go_wp2
  go_ret2
  refine ⟨ret_two ?_ ?_, rfl⟩
  · have e3 := mul64_arith x y hx0 hx hy0 hy
    simp only [IntKind.wrap_u64]
    rw [and_low32 _ (by omega) (by omega)]
    exact e3
  · rw [IntKind.wrap_u64]
theorem mul64_as (a b : Int) (w : World) : Calls Tryd.prog 93 #[.int .u64 (IntKind.u64.wrap a), .int .u64 (IntKind.u64.wrap b)] w fun e w' => e = .returned (.tuple #[.int .u64 ((a % 18446744073709551616) * (b % 18446744073709551616) / 18446744073709551616), .int .u64 (a * b % 18446744073709551616)]) ∧ w' = w := by
  rw [IntKind.wrap_u64, IntKind.wrap_u64]
  have h := mul64_any (a % 18446744073709551616) (b % 18446744073709551616) (by omega) (by omega) (by omega) (by omega) w
  rw [← Int.mul_emod] at h
  exact h
theorem mul64_nm (x y a b H L : Int) (w : World) (hx : x = a % 18446744073709551616) (hy : y = b % 18446744073709551616) (h : Hid ((a % 18446744073709551616) * (b % 18446744073709551616) / 18446744073709551616 = H)) (g : Hid (a * b % 18446744073709551616 = L)) : Calls Tryd.prog 93 #[.int .u64 x, .int .u64 y] w fun e w' => e = .returned (.tuple #[.int .u64 H, .int .u64 L]) ∧ w' = w := by
  have h1 := mul64_as a b w
  rw [IntKind.wrap_u64, IntKind.wrap_u64, ← hx, ← hy] at h1
  rw [← hx, ← hy] at h
  exact h1.mono fun e w' ⟨h1, h2⟩ => ⟨by rw [h1, h.out, g.out], h2⟩
set_option maxHeartbeats 1000000 in
theorem wide_any (a b : Int) (la : -9223372036854775808 ≤ a) (ha : a ≤ 9223372036854775807) (lb : -9223372036854775808 ≤ b) (hb : b ≤ 9223372036854775807) (w : World) :
    Calls Tryd.prog 91 #[.int .i64 a, .int .i64 b] w fun e w' => e = .returned (.tuple #[.int .i64 (a * b / 18446744073709551616), .int .u64 (a * b % 18446744073709551616)]) ∧ w' = w := by
  have hp := wide_high a b la ha lb hb
  have hr := wide_range a b la ha lb hb
  obtain ⟨H, hH⟩ : ∃ H, Hid ((a % 18446744073709551616) * (b % 18446744073709551616) / 18446744073709551616 = H) := ⟨_, rfl⟩
  obtain ⟨L, hL⟩ : ∃ L, Hid (a * b % 18446744073709551616 = L) := ⟨_, rfl⟩
  obtain ⟨q, hq⟩ : ∃ q, Hid (a * b / 18446744073709551616 = q) := ⟨_, rfl⟩
  rw [hH.out, hq.out] at hp
  rw [hq.out] at hr
  rw [hq.out, hL.out]
  obtain ⟨r1, r2⟩ := hr
  have hpp : Hid (H = q + (if a < 0 then b else 0) + (if b < 0 then a else 0) + (if a < 0 then (if b < 0 then 18446744073709551616 else 0) else 0)) := hp
  clear hp
  by_cases na : a < 0 <;> by_cases nb : b < 0
  · have c := mul64_nm (IntKind.u64.wrap a) (IntKind.u64.wrap b) a b H L w (IntKind.wrap_u64 a) (IntKind.wrap_u64 b) hH hL
    have hp := hpp.out
    rw [if_pos na, if_pos nb, if_pos na, if_pos nb] at hp
    have hq2 : Hid (H = _) := hp
    clear hp hpp
    go_enter Tryd.func91, Tryd.ntmps91
    go_wp2_with (go_at_call 93; with_reducible refine c.mono ?_; rintro e w' ⟨rfl, rfl⟩)
    go_ret2
    refine ⟨ret_two ?_ rfl, rfl⟩
    have hp := hq2.out
    try simp only [IntKind.wrap_u64]
    unfold wrap64
    omega
  · have c := mul64_nm (IntKind.u64.wrap a) b a b H L w (IntKind.wrap_u64 a) ((Int.emod_eq_of_lt (by omega) (by omega)).symm) hH hL
    have hp := hpp.out
    rw [if_pos na, if_neg nb, if_pos na, if_neg nb] at hp
    have hq2 : Hid (H = _) := hp
    clear hp hpp
    go_enter Tryd.func91, Tryd.ntmps91
    go_wp2_with (go_at_call 93; with_reducible refine c.mono ?_; rintro e w' ⟨rfl, rfl⟩)
    go_ret2
    refine ⟨ret_two ?_ rfl, rfl⟩
    have hp := hq2.out
    try simp only [IntKind.wrap_u64]
    unfold wrap64
    omega
  · have c := mul64_nm a (IntKind.u64.wrap b) a b H L w ((Int.emod_eq_of_lt (by omega) (by omega)).symm) (IntKind.wrap_u64 b) hH hL
    have hp := hpp.out
    rw [if_neg na, if_pos nb, if_neg na] at hp
    have hq2 : Hid (H = _) := hp
    clear hp hpp
    go_enter Tryd.func91, Tryd.ntmps91
    go_wp2_with (go_at_call 93; with_reducible refine c.mono ?_; rintro e w' ⟨rfl, rfl⟩)
    go_ret2
    refine ⟨ret_two ?_ rfl, rfl⟩
    have hp := hq2.out
    try simp only [IntKind.wrap_u64]
    unfold wrap64
    omega
  · have c := mul64_nm a b a b H L w ((Int.emod_eq_of_lt (by omega) (by omega)).symm) ((Int.emod_eq_of_lt (by omega) (by omega)).symm) hH hL
    have hp := hpp.out
    rw [if_neg na, if_neg nb, if_neg na] at hp
    have hq2 : Hid (H = _) := hp
    clear hp hpp
    go_enter Tryd.func91, Tryd.ntmps91
    go_wp2_with (go_at_call 93; with_reducible refine c.mono ?_; rintro e w' ⟨rfl, rfl⟩)
    go_ret2
    refine ⟨ret_two ?_ rfl, rfl⟩
    have hp := hq2.out
    try simp only [IntKind.wrap_u64]
    unfold wrap64
    omega
theorem high_op (a b : Int) (la : -9223372036854775808 ≤ a) (ha : a ≤ 9223372036854775807) (lb : -9223372036854775808 ≤ b) (hb : b ≤ 9223372036854775807) (w : World) :
    Calls Tryd.prog 55 #[.int .i64 36, .int .i64 a, .int .i64 b] w fun e w' => e = .returned (.tuple #[.int .i64 (a * b / 18446744073709551616), .int .i64 0]) ∧ w' = w := by
  go_enter Tryd.func55, Tryd.ntmps55
  go_wp2_with (first | (go_at_call 91; refine (wide_any _ _ la ha lb hb _).mono ?_; rintro e w' ⟨rfl, rfl⟩) | go_in)
  go_ret2
  exact ⟨rfl, rfl⟩
end Go.Proofs.YtjcmhaaohdmjpaaDoor.word
/- Contracts of package word's Apply at the operations bit by bit, shifts, comparisons; and that Apply answers at every operation. -/
namespace Go.Proofs.YtjcmhaaohdmjpaaDoor.word
open Go.ChangeShapes Go.WideShapes Go.ChangeAt Go.RowKit
open wrapped
set_option linter.unusedVariables false
theorem abs_op (a b : Int) (w : World) : Calls Tryd.prog 55 #[.int .i64 3, .int .i64 a, .int .i64 b] w fun e w' => e = .returned (.tuple #[.int .i64 (if a < 0 then wrap64 (-a) else a), .int .i64 0]) ∧ w' = w := by
  by_cases h : a < 0
  · rw [if_pos h]
    go_enter Tryd.func55, Tryd.ntmps55
    go_wp2
    go_ret2
    exact ⟨rfl, rfl⟩
  · rw [if_neg h]
    have h2 : 0 ≤ a := by omega
    go_enter Tryd.func55, Tryd.ntmps55
    go_wp2
    go_ret2
    exact ⟨rfl, rfl⟩
theorem bool_op (a b : Int) (w : World) : Calls Tryd.prog 55 #[.int .i64 8, .int .i64 a, .int .i64 b] w fun e w' => e = .returned (.tuple #[.int .i64 (if a = 0 then 0 else 1), .int .i64 0]) ∧ w' = w := by
  by_cases h : a = 0
  · rw [if_pos h]
    have h2 : (a != 0) = false := by simp [h]
    clear h
    go_enter Tryd.func55, Tryd.ntmps55
    go_wp2
    go_ret2
    exact ⟨rfl, rfl⟩
  · rw [if_neg h]
    have h2 : (a != 0) = true := by simp [h]
    clear h
    go_enter Tryd.func55, Tryd.ntmps55
    go_wp2
    go_ret2
    exact ⟨rfl, rfl⟩
theorem no_op1 (a b : Int) (w : World) : Calls Tryd.prog 55 #[.int .i64 9, .int .i64 a, .int .i64 b] w fun e w' => e = .returned (.tuple #[.int .i64 (if a = 0 then 1 else 0), .int .i64 0]) ∧ w' = w := by
  by_cases h : a = 0
  · rw [if_pos h]
    have h2 : (a == 0) = true := by simp [h]
    clear h
    go_enter Tryd.func55, Tryd.ntmps55
    go_wp2
    go_ret2
    exact ⟨rfl, rfl⟩
  · rw [if_neg h]
    have h2 : (a == 0) = false := by simp [h]
    clear h
    go_enter Tryd.func55, Tryd.ntmps55
    go_wp2
    go_ret2
    exact ⟨rfl, rfl⟩
theorem and_op (a b : Int) (w : World) : Calls Tryd.prog 55 #[.int .i64 21, .int .i64 a, .int .i64 b] w fun e w' => e = .returned (.tuple #[.int .i64 (bits BinOp.and IntKind.i64 a b), .int .i64 0]) ∧ w' = w := by
  go_enter Tryd.func55, Tryd.ntmps55
  go_wp2
  go_ret2
  exact ⟨rfl, rfl⟩
theorem or_op (a b : Int) (w : World) : Calls Tryd.prog 55 #[.int .i64 22, .int .i64 a, .int .i64 b] w fun e w' => e = .returned (.tuple #[.int .i64 (bits BinOp.or IntKind.i64 a b), .int .i64 0]) ∧ w' = w := by
  go_enter Tryd.func55, Tryd.ntmps55
  go_wp2
  go_ret2
  exact ⟨rfl, rfl⟩
theorem xor_op (a b : Int) (w : World) : Calls Tryd.prog 55 #[.int .i64 23, .int .i64 a, .int .i64 b] w fun e w' => e = .returned (.tuple #[.int .i64 (bits BinOp.xor IntKind.i64 a b), .int .i64 0]) ∧ w' = w := by
  go_enter Tryd.func55, Tryd.ntmps55
  go_wp2
  go_ret2
  exact ⟨rfl, rfl⟩
theorem clear_op (a b : Int) (w : World) : Calls Tryd.prog 55 #[.int .i64 24, .int .i64 a, .int .i64 b] w fun e w' => e = .returned (.tuple #[.int .i64 (bits BinOp.and IntKind.i64 a (bits BinOp.xor IntKind.i64 (-1) b)), .int .i64 0]) ∧ w' = w := by
  go_enter Tryd.func55, Tryd.ntmps55
  go_wp2
  go_ret2
  exact ⟨rfl, rfl⟩
theorem shl_neg (a b : Int) (w : World) (h : b < 0) : Calls Tryd.prog 55 #[.int .i64 25, .int .i64 a, .int .i64 b] w fun e w' => e = .returned (.tuple #[.int .i64 (0), .int .i64 21]) ∧ w' = w := by
  go_enter Tryd.func55, Tryd.ntmps55
  go_wp2
  go_ret2
  exact ⟨rfl, rfl⟩
theorem shl_op (a b : Int) (w : World) (h : 0 ≤ b) (h2 : b ≤ 9223372036854775807) : Calls Tryd.prog 55 #[.int .i64 25, .int .i64 a, .int .i64 b] w fun e w' => e = .returned (.tuple #[.int .i64 (wrap64 (a * 2 ^ min (b).toNat 64)), .int .i64 0]) ∧ w' = w := by
  go_enter Tryd.func55, Tryd.ntmps55
  go_wp2
  go_ret2
  exact ⟨rfl, rfl⟩
theorem shr_neg (a b : Int) (w : World) (h : b < 0) : Calls Tryd.prog 55 #[.int .i64 26, .int .i64 a, .int .i64 b] w fun e w' => e = .returned (.tuple #[.int .i64 (0), .int .i64 21]) ∧ w' = w := by
  go_enter Tryd.func55, Tryd.ntmps55
  go_wp2
  go_ret2
  exact ⟨rfl, rfl⟩
theorem shr_op (a b : Int) (w : World) (h : 0 ≤ b) (h2 : b ≤ 9223372036854775807) : Calls Tryd.prog 55 #[.int .i64 26, .int .i64 a, .int .i64 b] w fun e w' => e = .returned (.tuple #[.int .i64 (a / 2 ^ min (b).toNat 64), .int .i64 0]) ∧ w' = w := by
  go_enter Tryd.func55, Tryd.ntmps55
  go_wp2
  go_ret2
  exact ⟨rfl, rfl⟩
theorem ushr_neg (a b : Int) (w : World) (h : b < 0) : Calls Tryd.prog 55 #[.int .i64 27, .int .i64 a, .int .i64 b] w fun e w' => e = .returned (.tuple #[.int .i64 (0), .int .i64 21]) ∧ w' = w := by
  go_enter Tryd.func55, Tryd.ntmps55
  go_wp2
  go_ret2
  exact ⟨rfl, rfl⟩
theorem ushr_op (a b : Int) (w : World) (h : 0 ≤ b) (h2 : b ≤ 9223372036854775807) : Calls Tryd.prog 55 #[.int .i64 27, .int .i64 a, .int .i64 b] w fun e w' => e = .returned (.tuple #[.int .i64 (wrap64 (IntKind.u64.wrap a / 2 ^ min (b).toNat 64)), .int .i64 0]) ∧ w' = w := by
  go_enter Tryd.func55, Tryd.ntmps55
  go_wp2
  go_ret2
  exact ⟨rfl, rfl⟩
theorem eq_op (a b : Int) (w : World) : Calls Tryd.prog 55 #[.int .i64 29, .int .i64 a, .int .i64 b] w fun e w' => e = .returned (.tuple #[.int .i64 (if a = b then 1 else 0), .int .i64 0]) ∧ w' = w := by
  by_cases h : a = b
  · rw [if_pos h]
    have h2 : (a == b) = true := by simp [h]
    clear h
    go_enter Tryd.func55, Tryd.ntmps55
    go_wp2
    go_ret2
    exact ⟨rfl, rfl⟩
  · rw [if_neg h]
    have h2 : (a == b) = false := by simp [h]
    clear h
    go_enter Tryd.func55, Tryd.ntmps55
    go_wp2
    go_ret2
    exact ⟨rfl, rfl⟩
theorem ne_op (a b : Int) (w : World) : Calls Tryd.prog 55 #[.int .i64 30, .int .i64 a, .int .i64 b] w fun e w' => e = .returned (.tuple #[.int .i64 (if a = b then 0 else 1), .int .i64 0]) ∧ w' = w := by
  by_cases h : a = b
  · rw [if_pos h]
    have h2 : (a != b) = false := by simp [h]
    clear h
    go_enter Tryd.func55, Tryd.ntmps55
    go_wp2
    go_ret2
    exact ⟨rfl, rfl⟩
  · rw [if_neg h]
    have h2 : (a != b) = true := by simp [h]
    clear h
    go_enter Tryd.func55, Tryd.ntmps55
    go_wp2
    go_ret2
    exact ⟨rfl, rfl⟩
theorem lt_op (a b : Int) (w : World) : Calls Tryd.prog 55 #[.int .i64 31, .int .i64 a, .int .i64 b] w fun e w' => e = .returned (.tuple #[.int .i64 (if a < b then 1 else 0), .int .i64 0]) ∧ w' = w := by
  by_cases h : a < b
  · rw [if_pos h]
    go_enter Tryd.func55, Tryd.ntmps55
    go_wp2
    go_ret2
    exact ⟨rfl, rfl⟩
  · rw [if_neg h]
    have h2 : b ≤ a := by omega
    go_enter Tryd.func55, Tryd.ntmps55
    go_wp2
    go_ret2
    exact ⟨rfl, rfl⟩
theorem le_op (a b : Int) (w : World) : Calls Tryd.prog 55 #[.int .i64 32, .int .i64 a, .int .i64 b] w fun e w' => e = .returned (.tuple #[.int .i64 (if a ≤ b then 1 else 0), .int .i64 0]) ∧ w' = w := by
  by_cases h : a ≤ b
  · rw [if_pos h]
    go_enter Tryd.func55, Tryd.ntmps55
    go_wp2
    go_ret2
    exact ⟨rfl, rfl⟩
  · rw [if_neg h]
    have h2 : b < a := by omega
    go_enter Tryd.func55, Tryd.ntmps55
    go_wp2
    go_ret2
    exact ⟨rfl, rfl⟩
theorem ult_op (a b : Int) (w : World) : Calls Tryd.prog 55 #[.int .i64 33, .int .i64 a, .int .i64 b] w fun e w' => e = .returned (.tuple #[.int .i64 (if bits BinOp.xor IntKind.i64 a (-9223372036854775808) < bits BinOp.xor IntKind.i64 b (-9223372036854775808) then 1 else 0), .int .i64 0]) ∧ w' = w := by
  by_cases h : bits BinOp.xor IntKind.i64 a (-9223372036854775808) < bits BinOp.xor IntKind.i64 b (-9223372036854775808)
  · rw [if_pos h]
    go_enter Tryd.func55, Tryd.ntmps55
    go_wp2
    go_ret2
    exact ⟨rfl, rfl⟩
  · rw [if_neg h]
    have h2 := Int.not_lt.1 h
    go_enter Tryd.func55, Tryd.ntmps55
    go_wp2
    go_ret2
    exact ⟨rfl, rfl⟩
theorem min_op (a b : Int) (w : World) : Calls Tryd.prog 55 #[.int .i64 34, .int .i64 a, .int .i64 b] w fun e w' => e = .returned (.tuple #[.int .i64 (if b < a then b else a), .int .i64 0]) ∧ w' = w := by
  by_cases h : b < a
  · rw [if_pos h]
    go_enter Tryd.func55, Tryd.ntmps55
    go_wp2
    go_ret2
    exact ⟨rfl, rfl⟩
  · rw [if_neg h]
    have h2 : a ≤ b := by omega
    go_enter Tryd.func55, Tryd.ntmps55
    go_wp2
    go_ret2
    exact ⟨rfl, rfl⟩
theorem max_op (a b : Int) (w : World) : Calls Tryd.prog 55 #[.int .i64 35, .int .i64 a, .int .i64 b] w fun e w' => e = .returned (.tuple #[.int .i64 (if a < b then b else a), .int .i64 0]) ∧ w' = w := by
  by_cases h : a < b
  · rw [if_pos h]
    go_enter Tryd.func55, Tryd.ntmps55
    go_wp2
    go_ret2
    exact ⟨rfl, rfl⟩
  · rw [if_neg h]
    have h2 : b ≤ a := by omega
    go_enter Tryd.func55, Tryd.ntmps55
    go_wp2
    go_ret2
    exact ⟨rfl, rfl⟩

/-- Apply answers, and changes nothing, whatever it is asked. -/
theorem answers (k a b : Int) (la : -9223372036854775808 ≤ a) (ha : a ≤ 9223372036854775807) (lb : -9223372036854775808 ≤ b) (hb : b ≤ 9223372036854775807) (w : World) :
    Calls Tryd.prog 55 #[.int .i64 k, .int .i64 a, .int .i64 b] w fun e w' => ∃ x y : Int, e = .returned (.tuple #[.int .i64 x, .int .i64 y]) ∧ w' = w := by
  have go : ∀ {x y : Int}, (Calls Tryd.prog 55 #[.int .i64 k, .int .i64 a, .int .i64 b] w fun e w' => e = .returned (.tuple #[.int .i64 x, .int .i64 y]) ∧ w' = w) →
      Calls Tryd.prog 55 #[.int .i64 k, .int .i64 a, .int .i64 b] w fun e w' => ∃ x y : Int, e = .returned (.tuple #[.int .i64 x, .int .i64 y]) ∧ w' = w :=
    fun h => h.mono fun e w' ⟨h1, h2⟩ => ⟨_, _, h1, h2⟩
  by_cases h1 : k < 1 ∨ 36 < k
  · exact go (no_op k a b w h1)
  have hk : ∃ n : Nat, k = n ∧ 1 ≤ n ∧ n ≤ 36 := ⟨k.toNat, by omega, by omega, by omega⟩
  obtain ⟨n, rfl, hn1, hn2⟩ := hk
  clear h1
  have hc : n = 1 ∨ n = 2 ∨ n = 3 ∨ n = 4 ∨ n = 5 ∨ n = 6 ∨ n = 7 ∨ n = 8 ∨ n = 9 ∨ n = 10 ∨ n = 11 ∨ n = 12 ∨ n = 13 ∨ n = 14 ∨ n = 15 ∨ n = 16 ∨ n = 17 ∨ n = 18 ∨ n = 19 ∨ n = 20 ∨ n = 21 ∨ n = 22 ∨ n = 23 ∨ n = 24 ∨ n = 25 ∨ n = 26 ∨ n = 27 ∨ n = 28 ∨ n = 29 ∨ n = 30 ∨ n = 31 ∨ n = 32 ∨ n = 33 ∨ n = 34 ∨ n = 35 ∨ n = 36 := by omega
  rcases hc with rfl | rfl | rfl | rfl | rfl | rfl | rfl | rfl | rfl | rfl | rfl | rfl | rfl | rfl | rfl | rfl | rfl | rfl | rfl | rfl | rfl | rfl | rfl | rfl | rfl | rfl | rfl | rfl | rfl | rfl | rfl | rfl | rfl | rfl | rfl | rfl
  · exact go (neg_any a b w)
  · exact go (not_any a b w)
  · exact go (abs_op a b w)
  · exact go (ones_op a b w)
  · exact (lead_op a b w).mono fun e w' ⟨n, _, h1, h2⟩ => ⟨_, _, h1, h2⟩
  · exact (trail_op a b w).mono fun e w' ⟨n, _, h1, h2⟩ => ⟨_, _, h1, h2⟩
  · exact go (flip_op a b w)
  · exact go (bool_op a b w)
  · exact go (no_op1 a b w)
  · exact go (i8_any a b w)
  · exact go (i16_any a b w)
  · exact go (i32_any a b w)
  · exact go (u8_any a b w)
  · exact go (u16_any a b w)
  · exact go (u32_any a b w)
  · exact go (add_any a b w)
  · exact go (sub_any a b w)
  · exact go (mul_any a b w)
  · by_cases hz : b = 0
    · exact go (div_zero a b w hz)
    · exact go (div_any a b w (by simpa using hz) hz)
  · by_cases hz : b = 0
    · exact go (rem_zero a b w hz)
    · exact go (rem_any a b w (by simpa using hz) hz)
  · exact go (and_op a b w)
  · exact go (or_op a b w)
  · exact go (xor_op a b w)
  · exact go (clear_op a b w)
  · by_cases hz : b < 0
    · exact go (shl_neg a b w hz)
    · exact go (shl_op a b w (by omega) hb)
  · by_cases hz : b < 0
    · exact go (shr_neg a b w hz)
    · exact go (shr_op a b w (by omega) hb)
  · by_cases hz : b < 0
    · exact go (ushr_neg a b w hz)
    · exact go (ushr_op a b w (by omega) hb)
  · exact go (rotl_any a b w)
  · exact go (eq_op a b w)
  · exact go (ne_op a b w)
  · exact go (lt_op a b w)
  · exact go (le_op a b w)
  · exact go (ult_op a b w)
  · exact go (min_op a b w)
  · exact go (max_op a b w)
  · exact go (high_op a b la ha lb hb w)
end Go.Proofs.YtjcmhaaohdmjpaaDoor.word
