/- Contract of math/bits.RotateLeft64 and of package word's rotl. -/
import Derived.Test.YtjcmhaaohdmjpaaDoorRows
import Derived.Test.YtjcmhaaohdmjpaaDoorM11
import Derived.WalkKit
import Derived.ProofKit
import Derived.OpenShut
import Derived.WalkSpells
import Derived.WalkLawsBesides
import Derived.Test.YtjcmhaaohdmjpaaDoorM13
import Derived.Test.YtjcmhaaohdmjpaaDoorM12
namespace Go.Proofs.YtjcmhaaohdmjpaaDoor.word
open Go.ChangeShapes Go.WideShapes Go.ChangeAt Go.RowKit
open wrapped
set_option linter.unusedVariables false
theorem rot64_any (x : Int) (s : Nat) (hs : s < 64) (h0 : 0 ≤ x) (h1 : x < 18446744073709551616) (w : World) : Calls Tryd.prog 90 #[.int .u64 x, .int .i64 s] w fun e w' => e = .returned (.int .u64 (rotN x s)) ∧ w' = w := by
  have e1 := bits_u63 s hs
  go_enter Tryd.func90, Tryd.ntmps90
  go_wp2
  go_ret
  refine ⟨ret_int ?_, rfl⟩
  have e2 := rot_or x s h0 h1 hs
  rw [← e2, IntKind.wrap_u64]
theorem rot64_as (a b : Int) (w : World) : Calls Tryd.prog 90 #[.int .u64 (IntKind.u64.wrap a), .int .i64 (bits .and .i64 b 63)] w fun e w' => e = .returned (.int .u64 (rotN (a % 18446744073709551616) (b % 64).toNat)) ∧ w' = w := by
  have e1 : bits .and .i64 b 63 = ((b % 64).toNat : Int) := by rw [bits_63]; omega
  rw [e1, IntKind.wrap_u64]
  exact rot64_any _ _ (by omega) (by omega) (by omega) w
theorem rotl_any (a b : Int) (w : World) : Calls Tryd.prog 55 #[.int .i64 28, .int .i64 a, .int .i64 b] w fun e w' => e = .returned (.tuple #[.int .i64 (wrap64 (rotN (a % 18446744073709551616) (b % 64).toNat)), .int .i64 0]) ∧ w' = w := by
  go_enter Tryd.func55, Tryd.ntmps55
  go_wp2_with (first | (go_at_call 90; refine (rot64_as _ _ _).mono ?_; rintro e w' ⟨rfl, rfl⟩) | go_in)
  go_ret2
  exact ⟨rfl, rfl⟩
end Go.Proofs.YtjcmhaaohdmjpaaDoor.word
/- Contracts of package word's Apply at the operations of bits, shifts and comparisons, and that Apply always answers. -/
namespace Go.Proofs.YtjcmhaaohdmjpaaDoor.word
open Go.ChangeShapes Go.WideShapes Go.ChangeAt Go.RowKit
open wrapped
set_option linter.unusedVariables false
theorem no_op (k a b : Int) (w : World) (h : k < 1 ∨ 36 < k) : Calls Tryd.prog 55 #[.int .i64 k, .int .i64 a, .int .i64 b] w fun e w' => e = .returned (.tuple #[.int .i64 0, .int .i64 22]) ∧ w' = w := by
  rcases h with h | h
  · go_enter Tryd.func55, Tryd.ntmps55
    go_wp2
    go_ret2
    exact ⟨rfl, rfl⟩
  · have h' : ¬ k < 1 := by omega
    go_enter Tryd.func55, Tryd.ntmps55
    go_wp2
    go_ret2
    exact ⟨rfl, rfl⟩
theorem ones_op (a b : Int) (w : World) : Calls Tryd.prog 55 #[.int .i64 4, .int .i64 a, .int .i64 b] w fun e w' => e = .returned (.tuple #[.int .i64 (onesN a 64), .int .i64 0]) ∧ w' = w := by
  go_enter Tryd.func55, Tryd.ntmps55
  go_wp2_with (first | (go_at_call 86; refine (ones_any _ _).mono ?_; rintro e w' ⟨rfl, rfl⟩) | go_in)
  go_ret2
  exact ⟨rfl, rfl⟩
theorem lead_op (a b : Int) (w : World) : Calls Tryd.prog 55 #[.int .i64 5, .int .i64 a, .int .i64 b] w fun e w' => ∃ n : Nat, IsLead a n ∧ e = .returned (.tuple #[.int .i64 n, .int .i64 0]) ∧ w' = w := by
  go_enter Tryd.func55, Tryd.ntmps55
  go_wp2_with (first | (go_at_call 88; refine (lead_any _ _).mono ?_; rintro e w' ⟨n, hn, rfl, rfl⟩) | go_in)
  go_ret2
  exact ⟨_, hn, rfl, rfl⟩
theorem trail_op (a b : Int) (w : World) : Calls Tryd.prog 55 #[.int .i64 6, .int .i64 a, .int .i64 b] w fun e w' => ∃ n : Nat, IsLead (wrap64 (flipN a 64)) n ∧ e = .returned (.tuple #[.int .i64 n, .int .i64 0]) ∧ w' = w := by
  go_enter Tryd.func55, Tryd.ntmps55
  go_wp2_with (first | (go_at_call 87; refine (flip_any _ _).mono ?_; rintro e w' ⟨rfl, rfl⟩) | (go_at_call 88; refine (lead_any _ _).mono ?_; rintro e w' ⟨n, hn, rfl, rfl⟩) | go_in)
  go_ret2
  exact ⟨_, hn, rfl, rfl⟩
theorem flip_op (a b : Int) (w : World) : Calls Tryd.prog 55 #[.int .i64 7, .int .i64 a, .int .i64 b] w fun e w' => e = .returned (.tuple #[.int .i64 (wrap64 (flipN a 64)), .int .i64 0]) ∧ w' = w := by
  go_enter Tryd.func55, Tryd.ntmps55
  go_wp2_with (first | (go_at_call 87; refine (flip_any _ _).mono ?_; rintro e w' ⟨rfl, rfl⟩) | go_in)
  go_ret2
  exact ⟨rfl, rfl⟩
end Go.Proofs.YtjcmhaaohdmjpaaDoor.word
/- What the document's own answer to a whole product makes (scarabref02.Wide): the high word and the low one of a times b. -/
namespace Go.Proofs.YtjcmhaaohdmjpaaDoor.word
open Go.ChangeShapes Go.WideShapes Go.ChangeAt Go.RowKit
open wrapped
set_option linter.unusedVariables false
/-- The high word x and the low one y, when the bits of b from j on have been gone through. -/
def Inv (a b : Int) (j : Nat) (x y : Int) : Prop := ∃ V : Int, (j = 64 ∧ V = 0 ∨ j ≤ 63 ∧ V = a * (b / 2 ^ j)) ∧ x = V / 18446744073709551616 ∧ y = V % 18446744073709551616
theorem half (b : Int) (m : Nat) : b / 2 ^ m = 2 * (b / 2 ^ (m + 1)) + bitOf b m := by
  unfold bitOf
  rw [Int.pow_succ, ← Int.ediv_ediv_of_nonneg (Int.le_of_lt (pos2 m))]; omega
theorem Inv.step {a b : Int} {m : Nat} {x y X Y : Int} (lb : -9223372036854775808 ≤ b) (hb : b ≤ 9223372036854775807) (hm : m ≤ 63) (h : Inv a b (m + 1) x y) (c : Int) (hc : c = if m = 63 then -(a * bitOf b m) else a * bitOf b m)
    (e : X * 18446744073709551616 + Y = 2 * (x * 18446744073709551616 + y) + c) (h0 : 0 ≤ Y) (h1 : Y < 18446744073709551616) : Inv a b m X Y := by
  obtain ⟨V, hV, rfl, rfl⟩ := h
  refine ⟨a * (b / 2 ^ m), .inr ⟨hm, rfl⟩, ?_⟩
  have e2 : a * (b / 2 ^ m) = 2 * V + c := by
    rcases hV with ⟨h64, rfl⟩ | ⟨h63, rfl⟩
    · have : m = 63 := by omega
      subst this
      rw [if_pos rfl] at hc
      have e3 : b / 2 ^ 63 = -bitOf b 63 := by
        unfold bitOf
        rw [show (2 : Int) ^ 63 = 9223372036854775808 from by decide]
        omega
      rw [e3, hc, Int.mul_neg]; omega
    · rw [if_neg (by omega)] at hc
      rw [half b m, Int.mul_add, hc, Int.mul_left_comm]
  rw [e2]
  omega
theorem Inv.bd {a b : Int} {m : Nat} {x y : Int} (h : Inv a b (m + 1) x y) (la : -9223372036854775808 ≤ a) (ha : a ≤ 9223372036854775807) (lb : -9223372036854775808 ≤ b) (hb : b ≤ 9223372036854775807) :
    -2305843009213693952 ≤ x ∧ x ≤ 2305843009213693952 ∧ 0 ≤ y ∧ y < 18446744073709551616 := by
  obtain ⟨V, hV, rfl, rfl⟩ := h
  have h2 : -42535295865117307932921825928971026432 ≤ V ∧ V ≤ 42535295865117307932921825928971026432 := by
    rcases hV with ⟨_, rfl⟩ | ⟨_, rfl⟩
    · omega
    · have p := pos2 m
      have e : b / 2 ^ (m + 1) = b / 2 / 2 ^ m := by rw [Nat.add_comm, Int.pow_add, Int.ediv_ediv_of_nonneg (by omega)]; rfl
      rw [e]
      have g1 : b / 2 ≤ 4611686018427387903 := by omega
      have g2 : -4611686018427387904 ≤ b / 2 := by omega
      generalize b / 2 = c at g1 g2
      have q1 : c / 2 ^ m ≤ 4611686018427387903 := by
        have : c / 2 ^ m ≤ 4611686018427387903 / 2 ^ m := Int.ediv_le_ediv p g1
        have h3 : (4611686018427387903 : Int) / 2 ^ m ≤ 4611686018427387903 := Int.ediv_le_self _ (by omega)
        omega
      have q2 : -4611686018427387904 ≤ c / 2 ^ m := by
        refine (Int.le_ediv_iff_mul_le p).2 ?_
        have h3 : (1 : Int) ≤ 2 ^ m := by omega
        have h4 : (4611686018427387904 : Int) * 1 ≤ 4611686018427387904 * 2 ^ m := Int.mul_le_mul_of_nonneg_left h3 (by omega)
        rw [Int.neg_mul]; omega
      have h5 := prod_range a (c / 2 ^ m * 2) 9223372036854775808 (by omega) (by omega) (by omega) (by omega)
      rw [← Int.mul_assoc] at h5
      omega
  omega
theorem uwrap_lo (x : Int) : 0 ≤ IntKind.u64.wrap x := by rw [IntKind.wrap_u64]; omega
theorem uwrap_hi (x : Int) : IntKind.u64.wrap x < 18446744073709551616 := by rw [IntKind.wrap_u64]; omega
theorem lemA (x y : Int) (b1 : -2305843009213693952 ≤ x) (b2 : x ≤ 2305843009213693952) (b3 : 0 ≤ y) (b4 : y < 18446744073709551616) : wrap64 (wrap64 (x * 2) + y / 9223372036854775808) * 18446744073709551616 + IntKind.u64.wrap (y * 2) = 2 * (x * 18446744073709551616 + y) + 0 := by
  rw [IntKind.wrap_u64]; unfold wrap64; omega
theorem lemB1 (x y a : Int) (b1 : -2305843009213693952 ≤ x) (b2 : x ≤ 2305843009213693952) (b3 : 0 ≤ y) (b4 : y < 18446744073709551616) (la : -9223372036854775808 ≤ a) (ha : a ≤ 9223372036854775807) (h : IntKind.u64.wrap (y * 2) < IntKind.u64.wrap a) : wrap64 (wrap64 (wrap64 (wrap64 (x * 2) + y / 9223372036854775808) - a / 9223372036854775808) - 1) * 18446744073709551616 + IntKind.u64.wrap (IntKind.u64.wrap (y * 2) - IntKind.u64.wrap a) = 2 * (x * 18446744073709551616 + y) + (-a) := by
  have f1 : y * 2 % 18446744073709551616 = y * 2 - 18446744073709551616 * (y / 9223372036854775808) := by omega
  have f2 : a % 18446744073709551616 = a - 18446744073709551616 * (a / 9223372036854775808) := by omega
  have g1 : 0 ≤ y / 9223372036854775808 ∧ y / 9223372036854775808 ≤ 1 := by omega
  have g2 : -1 ≤ a / 9223372036854775808 ∧ a / 9223372036854775808 ≤ 0 := by omega
  have g3 : 0 ≤ y * 2 % 18446744073709551616 ∧ y * 2 % 18446744073709551616 < 18446744073709551616 := by omega
  have g4 : 0 ≤ a % 18446744073709551616 ∧ a % 18446744073709551616 < 18446744073709551616 := by omega
  simp only [IntKind.wrap_u64] at *
  generalize y * 2 % 18446744073709551616 = u at *
  generalize a % 18446744073709551616 = v at *
  generalize y / 9223372036854775808 = c at *
  generalize a / 9223372036854775808 = d at *
  rw [wrap64_id (x * 2) (by omega) (by omega), wrap64_id (x * 2 + c) (by omega) (by omega)]
  rw [wrap64_id (x * 2 + c - d) (by omega) (by omega), wrap64_id (x * 2 + c - d - 1) (by omega) (by omega)]
  omega
theorem lemB2 (x y a : Int) (b1 : -2305843009213693952 ≤ x) (b2 : x ≤ 2305843009213693952) (b3 : 0 ≤ y) (b4 : y < 18446744073709551616) (la : -9223372036854775808 ≤ a) (ha : a ≤ 9223372036854775807) (h : IntKind.u64.wrap a ≤ IntKind.u64.wrap (y * 2)) : wrap64 (wrap64 (wrap64 (x * 2) + y / 9223372036854775808) - a / 9223372036854775808) * 18446744073709551616 + IntKind.u64.wrap (IntKind.u64.wrap (y * 2) - IntKind.u64.wrap a) = 2 * (x * 18446744073709551616 + y) + (-a) := by
  have f1 : y * 2 % 18446744073709551616 = y * 2 - 18446744073709551616 * (y / 9223372036854775808) := by omega
  have f2 : a % 18446744073709551616 = a - 18446744073709551616 * (a / 9223372036854775808) := by omega
  have g1 : 0 ≤ y / 9223372036854775808 ∧ y / 9223372036854775808 ≤ 1 := by omega
  have g2 : -1 ≤ a / 9223372036854775808 ∧ a / 9223372036854775808 ≤ 0 := by omega
  have g3 : 0 ≤ y * 2 % 18446744073709551616 ∧ y * 2 % 18446744073709551616 < 18446744073709551616 := by omega
  have g4 : 0 ≤ a % 18446744073709551616 ∧ a % 18446744073709551616 < 18446744073709551616 := by omega
  simp only [IntKind.wrap_u64] at *
  generalize y * 2 % 18446744073709551616 = u at *
  generalize a % 18446744073709551616 = v at *
  generalize y / 9223372036854775808 = c at *
  generalize a / 9223372036854775808 = d at *
  rw [wrap64_id (x * 2) (by omega) (by omega), wrap64_id (x * 2 + c) (by omega) (by omega)]
  rw [wrap64_id (x * 2 + c - d) (by omega) (by omega)]
  omega
theorem lemC1 (x y a : Int) (b1 : -2305843009213693952 ≤ x) (b2 : x ≤ 2305843009213693952) (b3 : 0 ≤ y) (b4 : y < 18446744073709551616) (la : -9223372036854775808 ≤ a) (ha : a ≤ 9223372036854775807) (h : IntKind.u64.wrap (IntKind.u64.wrap (y * 2) + IntKind.u64.wrap a) < IntKind.u64.wrap (y * 2)) : wrap64 (wrap64 (wrap64 (wrap64 (x * 2) + y / 9223372036854775808) + a / 9223372036854775808) + 1) * 18446744073709551616 + IntKind.u64.wrap (IntKind.u64.wrap (y * 2) + IntKind.u64.wrap a) = 2 * (x * 18446744073709551616 + y) + a := by
  have f1 : y * 2 % 18446744073709551616 = y * 2 - 18446744073709551616 * (y / 9223372036854775808) := by omega
  have f2 : a % 18446744073709551616 = a - 18446744073709551616 * (a / 9223372036854775808) := by omega
  have g1 : 0 ≤ y / 9223372036854775808 ∧ y / 9223372036854775808 ≤ 1 := by omega
  have g2 : -1 ≤ a / 9223372036854775808 ∧ a / 9223372036854775808 ≤ 0 := by omega
  have g3 : 0 ≤ y * 2 % 18446744073709551616 ∧ y * 2 % 18446744073709551616 < 18446744073709551616 := by omega
  have g4 : 0 ≤ a % 18446744073709551616 ∧ a % 18446744073709551616 < 18446744073709551616 := by omega
  simp only [IntKind.wrap_u64] at *
  generalize y * 2 % 18446744073709551616 = u at *
  generalize a % 18446744073709551616 = v at *
  generalize y / 9223372036854775808 = c at *
  generalize a / 9223372036854775808 = d at *
  rw [wrap64_id (x * 2) (by omega) (by omega), wrap64_id (x * 2 + c) (by omega) (by omega)]
  rw [wrap64_id (x * 2 + c + d) (by omega) (by omega), wrap64_id (x * 2 + c + d + 1) (by omega) (by omega)]
  omega
theorem lemC2 (x y a : Int) (b1 : -2305843009213693952 ≤ x) (b2 : x ≤ 2305843009213693952) (b3 : 0 ≤ y) (b4 : y < 18446744073709551616) (la : -9223372036854775808 ≤ a) (ha : a ≤ 9223372036854775807) (h : IntKind.u64.wrap (y * 2) ≤ IntKind.u64.wrap (IntKind.u64.wrap (y * 2) + IntKind.u64.wrap a)) : wrap64 (wrap64 (wrap64 (x * 2) + y / 9223372036854775808) + a / 9223372036854775808) * 18446744073709551616 + IntKind.u64.wrap (IntKind.u64.wrap (y * 2) + IntKind.u64.wrap a) = 2 * (x * 18446744073709551616 + y) + a := by
  have f1 : y * 2 % 18446744073709551616 = y * 2 - 18446744073709551616 * (y / 9223372036854775808) := by omega
  have f2 : a % 18446744073709551616 = a - 18446744073709551616 * (a / 9223372036854775808) := by omega
  have g1 : 0 ≤ y / 9223372036854775808 ∧ y / 9223372036854775808 ≤ 1 := by omega
  have g2 : -1 ≤ a / 9223372036854775808 ∧ a / 9223372036854775808 ≤ 0 := by omega
  have g3 : 0 ≤ y * 2 % 18446744073709551616 ∧ y * 2 % 18446744073709551616 < 18446744073709551616 := by omega
  have g4 : 0 ≤ a % 18446744073709551616 ∧ a % 18446744073709551616 < 18446744073709551616 := by omega
  simp only [IntKind.wrap_u64] at *
  generalize y * 2 % 18446744073709551616 = u at *
  generalize a % 18446744073709551616 = v at *
  generalize y / 9223372036854775808 = c at *
  generalize a / 9223372036854775808 = d at *
  rw [wrap64_id (x * 2) (by omega) (by omega), wrap64_id (x * 2 + c) (by omega) (by omega)]
  rw [wrap64_id (x * 2 + c + d) (by omega) (by omega)]
  omega
theorem lemAn (x y : Int) (b1 : -2305843009213693952 ≤ x) (b2 : x ≤ 2305843009213693952) (b3 : 0 ≤ y) (b4 : y < 18446744073709551616) : ((x * 2) + y / 9223372036854775808) * 18446744073709551616 + IntKind.u64.wrap (y * 2) = 2 * (x * 18446744073709551616 + y) + 0 := by
  rw [IntKind.wrap_u64]; omega
theorem lemB1n (x y a : Int) (b1 : -2305843009213693952 ≤ x) (b2 : x ≤ 2305843009213693952) (b3 : 0 ≤ y) (b4 : y < 18446744073709551616) (la : -9223372036854775808 ≤ a) (ha : a ≤ 9223372036854775807) (h : IntKind.u64.wrap (y * 2) < IntKind.u64.wrap a) : ((((x * 2) + y / 9223372036854775808) - a / 9223372036854775808) - 1) * 18446744073709551616 + IntKind.u64.wrap (IntKind.u64.wrap (y * 2) - IntKind.u64.wrap a) = 2 * (x * 18446744073709551616 + y) + (-a) := by
  have f1 : y * 2 % 18446744073709551616 = y * 2 - 18446744073709551616 * (y / 9223372036854775808) := by omega
  have f2 : a % 18446744073709551616 = a - 18446744073709551616 * (a / 9223372036854775808) := by omega
  have g1 : 0 ≤ y / 9223372036854775808 ∧ y / 9223372036854775808 ≤ 1 := by omega
  have g2 : -1 ≤ a / 9223372036854775808 ∧ a / 9223372036854775808 ≤ 0 := by omega
  have g3 : 0 ≤ y * 2 % 18446744073709551616 ∧ y * 2 % 18446744073709551616 < 18446744073709551616 := by omega
  have g4 : 0 ≤ a % 18446744073709551616 ∧ a % 18446744073709551616 < 18446744073709551616 := by omega
  simp only [IntKind.wrap_u64] at *
  generalize y * 2 % 18446744073709551616 = u at *
  generalize a % 18446744073709551616 = v at *
  generalize y / 9223372036854775808 = c at *
  generalize a / 9223372036854775808 = d at *
  omega
theorem lemB2n (x y a : Int) (b1 : -2305843009213693952 ≤ x) (b2 : x ≤ 2305843009213693952) (b3 : 0 ≤ y) (b4 : y < 18446744073709551616) (la : -9223372036854775808 ≤ a) (ha : a ≤ 9223372036854775807) (h : IntKind.u64.wrap a ≤ IntKind.u64.wrap (y * 2)) : (((x * 2) + y / 9223372036854775808) - a / 9223372036854775808) * 18446744073709551616 + IntKind.u64.wrap (IntKind.u64.wrap (y * 2) - IntKind.u64.wrap a) = 2 * (x * 18446744073709551616 + y) + (-a) := by
  have f1 : y * 2 % 18446744073709551616 = y * 2 - 18446744073709551616 * (y / 9223372036854775808) := by omega
  have f2 : a % 18446744073709551616 = a - 18446744073709551616 * (a / 9223372036854775808) := by omega
  have g1 : 0 ≤ y / 9223372036854775808 ∧ y / 9223372036854775808 ≤ 1 := by omega
  have g2 : -1 ≤ a / 9223372036854775808 ∧ a / 9223372036854775808 ≤ 0 := by omega
  have g3 : 0 ≤ y * 2 % 18446744073709551616 ∧ y * 2 % 18446744073709551616 < 18446744073709551616 := by omega
  have g4 : 0 ≤ a % 18446744073709551616 ∧ a % 18446744073709551616 < 18446744073709551616 := by omega
  simp only [IntKind.wrap_u64] at *
  generalize y * 2 % 18446744073709551616 = u at *
  generalize a % 18446744073709551616 = v at *
  generalize y / 9223372036854775808 = c at *
  generalize a / 9223372036854775808 = d at *
  omega
theorem lemC1n (x y a : Int) (b1 : -2305843009213693952 ≤ x) (b2 : x ≤ 2305843009213693952) (b3 : 0 ≤ y) (b4 : y < 18446744073709551616) (la : -9223372036854775808 ≤ a) (ha : a ≤ 9223372036854775807) (h : IntKind.u64.wrap (IntKind.u64.wrap (y * 2) + IntKind.u64.wrap a) < IntKind.u64.wrap (y * 2)) : ((((x * 2) + y / 9223372036854775808) + a / 9223372036854775808) + 1) * 18446744073709551616 + IntKind.u64.wrap (IntKind.u64.wrap (y * 2) + IntKind.u64.wrap a) = 2 * (x * 18446744073709551616 + y) + a := by
  have f1 : y * 2 % 18446744073709551616 = y * 2 - 18446744073709551616 * (y / 9223372036854775808) := by omega
  have f2 : a % 18446744073709551616 = a - 18446744073709551616 * (a / 9223372036854775808) := by omega
  have g1 : 0 ≤ y / 9223372036854775808 ∧ y / 9223372036854775808 ≤ 1 := by omega
  have g2 : -1 ≤ a / 9223372036854775808 ∧ a / 9223372036854775808 ≤ 0 := by omega
  have g3 : 0 ≤ y * 2 % 18446744073709551616 ∧ y * 2 % 18446744073709551616 < 18446744073709551616 := by omega
  have g4 : 0 ≤ a % 18446744073709551616 ∧ a % 18446744073709551616 < 18446744073709551616 := by omega
  simp only [IntKind.wrap_u64] at *
  generalize y * 2 % 18446744073709551616 = u at *
  generalize a % 18446744073709551616 = v at *
  generalize y / 9223372036854775808 = c at *
  generalize a / 9223372036854775808 = d at *
  omega
theorem lemC2n (x y a : Int) (b1 : -2305843009213693952 ≤ x) (b2 : x ≤ 2305843009213693952) (b3 : 0 ≤ y) (b4 : y < 18446744073709551616) (la : -9223372036854775808 ≤ a) (ha : a ≤ 9223372036854775807) (h : IntKind.u64.wrap (y * 2) ≤ IntKind.u64.wrap (IntKind.u64.wrap (y * 2) + IntKind.u64.wrap a)) : (((x * 2) + y / 9223372036854775808) + a / 9223372036854775808) * 18446744073709551616 + IntKind.u64.wrap (IntKind.u64.wrap (y * 2) + IntKind.u64.wrap a) = 2 * (x * 18446744073709551616 + y) + a := by
  have f1 : y * 2 % 18446744073709551616 = y * 2 - 18446744073709551616 * (y / 9223372036854775808) := by omega
  have f2 : a % 18446744073709551616 = a - 18446744073709551616 * (a / 9223372036854775808) := by omega
  have g1 : 0 ≤ y / 9223372036854775808 ∧ y / 9223372036854775808 ≤ 1 := by omega
  have g2 : -1 ≤ a / 9223372036854775808 ∧ a / 9223372036854775808 ≤ 0 := by omega
  have g3 : 0 ≤ y * 2 % 18446744073709551616 ∧ y * 2 % 18446744073709551616 < 18446744073709551616 := by omega
  have g4 : 0 ≤ a % 18446744073709551616 ∧ a % 18446744073709551616 < 18446744073709551616 := by omega
  simp only [IntKind.wrap_u64] at *
  generalize y * 2 % 18446744073709551616 = u at *
  generalize a % 18446744073709551616 = v at *
  generalize y / 9223372036854775808 = c at *
  generalize a / 9223372036854775808 = d at *
  omega
set_option maxHeartbeats 2000000 in
theorem refwide_any (a b : Int) (la : -9223372036854775808 ≤ a) (ha : a ≤ 9223372036854775807) (lb : -9223372036854775808 ≤ b) (hb : b ≤ 9223372036854775807) (w : World) :
    Calls Tryd.prog 79 #[.int .i64 a, .int .i64 b] w fun e w' => e = .returned (.tuple #[.int .i64 (a * b / 18446744073709551616), .int .u64 (a * b % 18446744073709551616)]) ∧ w' = w := by
  go_enter Tryd.func79, Tryd.ntmps79
  go_wp2
  go_loop [6, 7, 8] (fun h l i => ∃ (j : Nat) (x y : Int), j ≤ 64 ∧ i = .int .i64 ((j : Int) - 1) ∧ h = .int .i64 x ∧ l = .int .u64 y ∧ Inv a b j x y) (fun _ _ i => (intOf i + 1).toNat)
  case atStart => exact ⟨64, 0, 0, Nat.le_refl _, rfl, rfl, rfl, 0, .inl ⟨rfl, rfl⟩, rfl, rfl⟩
  case round =>
    obtain ⟨j, x, y, hj, rfl, rfl, rfl, hI⟩ := hrel
    rcases Nat.eq_zero_or_eq_succ_pred j with h0 | h0
    · subst h0
      go_wp2
      go_ret2
      obtain ⟨V, hV, rfl, rfl⟩ := hI
      have hv : V = a * b := by
        rcases hV with ⟨h, _⟩ | ⟨_, h⟩
        · omega
        · rw [h]; simp
      exact ⟨ret_two (by rw [hv]) (by rw [hv]), rfl⟩
    · generalize j.pred = m at h0
      subst h0
      have hc : (((m.succ : Nat) : Int) - 1) = (m : Int) := by omega
      rw [hc]
      clear hc
      have hm : m < 64 := by omega
      clear hj
      have hbb := bitOf_01 b m
      obtain ⟨b1, b2, b3, b4⟩ := hI.bd la ha lb hb
      have HI : Hid (Inv a b (m + 1) x y) := hI
      clear hI
      by_cases h1 : bitOf b m = 0
      · have h1' : (bitOf b m == 0) = true := by simpa using h1
        have hz : Hid (bitOf b m = 0) := h1
        clear h1
        go_wp2_with (go_at_call 75; refine (refbit_any _ _ hm _).mono ?_; rintro e w' ⟨rfl, rfl⟩)
        go_round
        case rel => exact ⟨m, _, _, by omega, by go_num, rfl, rfl, HI.out.step lb hb (by omega) 0 (by rw [hz.out]; simp) (by first | exact lemA x y b1 b2 b3 b4 | exact lemAn x y b1 b2 b3 b4) (uwrap_lo _) (uwrap_hi _)⟩
        case measure => simp [intOf]
      · have h1' : (bitOf b m == 0) = false := by simpa using h1
        have hz : Hid (bitOf b m = 1) := by show bitOf b m = 1; omega
        clear h1
        by_cases h63 : m = 63
        · subst h63
          go_wp2_with (go_at_call 75; refine (refbit_any _ _ hm _).mono ?_; rintro e w' ⟨rfl, rfl⟩)
          all_goals
            go_round
            case rel => exact ⟨63, _, _, by omega, by go_num, rfl, rfl, HI.out.step lb hb (by omega) (-a) (by rw [hz.out]; simp) (by first | exact lemB1 x y a b1 b2 b3 b4 la ha (by assumption) | exact lemB2 x y a b1 b2 b3 b4 la ha (by assumption) | exact lemB1n x y a b1 b2 b3 b4 la ha (by assumption) | exact lemB2n x y a b1 b2 b3 b4 la ha (by assumption)) (uwrap_lo _) (uwrap_hi _)⟩
            case measure => simp [intOf]
        · have h63' : ((m : Int) == 63) = false := by simp; omega
          go_wp2_with (go_at_call 75; refine (refbit_any _ _ hm _).mono ?_; rintro e w' ⟨rfl, rfl⟩)
          all_goals
            go_round
            case rel => exact ⟨m, _, _, by omega, by go_num, rfl, rfl, HI.out.step lb hb (by omega) a (by rw [hz.out]; rw [if_neg h63]; simp) (by first | exact lemC1 x y a b1 b2 b3 b4 la ha (by assumption) | exact lemC2 x y a b1 b2 b3 b4 la ha (by assumption) | exact lemC1n x y a b1 b2 b3 b4 la ha (by assumption) | exact lemC2n x y a b1 b2 b3 b4 la ha (by assumption)) (uwrap_lo _) (uwrap_hi _)⟩
            case measure => simp [intOf]
end Go.Proofs.YtjcmhaaohdmjpaaDoor.word
