/- Contracts of the statements' helper 'did' at the operations of bits, the answer given by a name. -/
import Derived.Test.YtjlhiagkkpjehadOps
import Derived.Test.YtjlhiagkkpjehadTurn
namespace Go.Proofs.Ytjlhiagkkpjehad.word
open Go.ChangeShapes Go.WideShapes Go.ChangeAt Go.RowKit
open wrapped
set_option linter.unusedVariables false
theorem lead_one (a : Int) (m n : Nat) (hm : IsLead a m) (hn : IsLead a n) : m = n := by
  obtain ⟨m1, m2, m3⟩ := hm
  obtain ⟨n1, n2, n3⟩ := hn
  rcases Nat.lt_trichotomy m n with h | h | h
  · have := n2 m h; have := m3 (by omega); omega
  · exact h
  · have := m2 n h; have := n3 (by omega); omega

theorem did_neg_as (a b x : Int) (w : World) (he : Hid (wrap64 (-a) = x)) : Calls Try.prog 10 #[.int .i64 1, .int .i64 a, .int .i64 b] w fun e w' => e = .returned (.tuple #[.int .i64 x, .bool true]) ∧ w' = w := by
  have hap : Calls Try.prog 12 #[.int .i64 1, .int .i64 a, .int .i64 b] w fun e w' => e = .returned (.tuple #[.int .i64 x, .int .i64 0]) ∧ w' = w :=
    (neg_any a b w).mono fun e w' ⟨h1, h2⟩ => ⟨by rw [h1, he.out], h2⟩
  clear he
  go_enter Try.func10, Try.ntmps10
  go_wp2_with (go_at_call 12; refine hap.mono ?_; rintro e w' ⟨rfl, rfl⟩)
  go_ret2
  exact ⟨rfl, rfl⟩

theorem did_not_as (a b x : Int) (w : World) (he : Hid (bits BinOp.xor IntKind.i64 (-1) a = x)) : Calls Try.prog 10 #[.int .i64 2, .int .i64 a, .int .i64 b] w fun e w' => e = .returned (.tuple #[.int .i64 x, .bool true]) ∧ w' = w := by
  have hap : Calls Try.prog 12 #[.int .i64 2, .int .i64 a, .int .i64 b] w fun e w' => e = .returned (.tuple #[.int .i64 x, .int .i64 0]) ∧ w' = w :=
    (not_any a b w).mono fun e w' ⟨h1, h2⟩ => ⟨by rw [h1, he.out], h2⟩
  clear he
  go_enter Try.func10, Try.ntmps10
  go_wp2_with (go_at_call 12; refine hap.mono ?_; rintro e w' ⟨rfl, rfl⟩)
  go_ret2
  exact ⟨rfl, rfl⟩

theorem did_ones_as (a b x : Int) (w : World) (he : Hid (onesN a 64 = x)) : Calls Try.prog 10 #[.int .i64 4, .int .i64 a, .int .i64 b] w fun e w' => e = .returned (.tuple #[.int .i64 x, .bool true]) ∧ w' = w := by
  have hap : Calls Try.prog 12 #[.int .i64 4, .int .i64 a, .int .i64 b] w fun e w' => e = .returned (.tuple #[.int .i64 x, .int .i64 0]) ∧ w' = w :=
    (ones_op a b w).mono fun e w' ⟨h1, h2⟩ => ⟨by rw [h1, he.out], h2⟩
  clear he
  go_enter Try.func10, Try.ntmps10
  go_wp2_with (go_at_call 12; refine hap.mono ?_; rintro e w' ⟨rfl, rfl⟩)
  go_ret2
  exact ⟨rfl, rfl⟩

theorem did_flip_as (a b x : Int) (w : World) (he : Hid (wrap64 (flipN a 64) = x)) : Calls Try.prog 10 #[.int .i64 7, .int .i64 a, .int .i64 b] w fun e w' => e = .returned (.tuple #[.int .i64 x, .bool true]) ∧ w' = w := by
  have hap : Calls Try.prog 12 #[.int .i64 7, .int .i64 a, .int .i64 b] w fun e w' => e = .returned (.tuple #[.int .i64 x, .int .i64 0]) ∧ w' = w :=
    (flip_op a b w).mono fun e w' ⟨h1, h2⟩ => ⟨by rw [h1, he.out], h2⟩
  clear he
  go_enter Try.func10, Try.ntmps10
  go_wp2_with (go_at_call 12; refine hap.mono ?_; rintro e w' ⟨rfl, rfl⟩)
  go_ret2
  exact ⟨rfl, rfl⟩

theorem did_rotl_as (a b x : Int) (w : World) (he : Hid (wrap64 (rotN (a % 18446744073709551616) (b % 64).toNat) = x)) : Calls Try.prog 10 #[.int .i64 28, .int .i64 a, .int .i64 b] w fun e w' => e = .returned (.tuple #[.int .i64 x, .bool true]) ∧ w' = w := by
  have hap : Calls Try.prog 12 #[.int .i64 28, .int .i64 a, .int .i64 b] w fun e w' => e = .returned (.tuple #[.int .i64 x, .int .i64 0]) ∧ w' = w :=
    (rotl_any a b w).mono fun e w' ⟨h1, h2⟩ => ⟨by rw [h1, he.out], h2⟩
  clear he
  go_enter Try.func10, Try.ntmps10
  go_wp2_with (go_at_call 12; refine hap.mono ?_; rintro e w' ⟨rfl, rfl⟩)
  go_ret2
  exact ⟨rfl, rfl⟩

theorem did_lead_as (a b : Int) (x : Nat) (w : World) (he : Hid (IsLead a x)) : Calls Try.prog 10 #[.int .i64 5, .int .i64 a, .int .i64 b] w fun e w' => e = .returned (.tuple #[.int .i64 x, .bool true]) ∧ w' = w := by
  have hap : Calls Try.prog 12 #[.int .i64 5, .int .i64 a, .int .i64 b] w fun e w' => e = .returned (.tuple #[.int .i64 x, .int .i64 0]) ∧ w' = w :=
    (lead_op a b w).mono fun e w' ⟨n, h0, h1, h2⟩ => ⟨by rw [h1, lead_one _ n x h0 he.out], h2⟩
  clear he
  go_enter Try.func10, Try.ntmps10
  go_wp2_with (go_at_call 12; refine hap.mono ?_; rintro e w' ⟨rfl, rfl⟩)
  go_ret2
  exact ⟨rfl, rfl⟩

theorem did_trail_as (a b : Int) (x : Nat) (w : World) (he : Hid (IsLead (wrap64 (flipN a 64)) x)) : Calls Try.prog 10 #[.int .i64 6, .int .i64 a, .int .i64 b] w fun e w' => e = .returned (.tuple #[.int .i64 x, .bool true]) ∧ w' = w := by
  have hap : Calls Try.prog 12 #[.int .i64 6, .int .i64 a, .int .i64 b] w fun e w' => e = .returned (.tuple #[.int .i64 x, .int .i64 0]) ∧ w' = w :=
    (trail_op a b w).mono fun e w' ⟨n, h0, h1, h2⟩ => ⟨by rw [h1, lead_one _ n x h0 he.out], h2⟩
  clear he
  go_enter Try.func10, Try.ntmps10
  go_wp2_with (go_at_call 12; refine hap.mono ?_; rintro e w' ⟨rfl, rfl⟩)
  go_ret2
  exact ⟨rfl, rfl⟩
end Go.Proofs.Ytjlhiagkkpjehad.word
