/- Contracts of package word's Apply at the operations of bits, shifts and comparisons, and that Apply always answers. -/
import Derived.Test.YtecimplpfghikabWord
import Derived.Test.YtecimplpfghikabBit
import Derived.Test.YtecimplpfghikabRot
namespace Go.Proofs.Ytecimplpfghikab.word
open Go.ChangeShapes Go.WideShapes Go.ChangeAt Go.RowKit
open wrapped
set_option linter.unusedVariables false
theorem no_op (k a b : Int) (w : World) (h : k < 1 ∨ 36 < k) : Calls Try.prog 7 #[.int .i64 k, .int .i64 a, .int .i64 b] w fun e w' => e = .returned (.tuple #[.int .i64 0, .int .i64 22]) ∧ w' = w := by
  rcases h with h | h
  · go_enter Try.func7, Try.ntmps7
    go_wp2
    go_ret2
    exact ⟨rfl, rfl⟩
  · have h' : ¬ k < 1 := by omega
    go_enter Try.func7, Try.ntmps7
    go_wp2
    go_ret2
    exact ⟨rfl, rfl⟩
theorem ones_op (a b : Int) (w : World) : Calls Try.prog 7 #[.int .i64 4, .int .i64 a, .int .i64 b] w fun e w' => e = .returned (.tuple #[.int .i64 (onesN a 64), .int .i64 0]) ∧ w' = w := by
  go_enter Try.func7, Try.ntmps7
  go_wp2_with (first | (go_at_call 27; refine (ones_any _ _).mono ?_; rintro e w' ⟨rfl, rfl⟩) | go_in)
  go_ret2
  exact ⟨rfl, rfl⟩
theorem lead_op (a b : Int) (w : World) : Calls Try.prog 7 #[.int .i64 5, .int .i64 a, .int .i64 b] w fun e w' => ∃ n : Nat, IsLead a n ∧ e = .returned (.tuple #[.int .i64 n, .int .i64 0]) ∧ w' = w := by
  go_enter Try.func7, Try.ntmps7
  go_wp2_with (first | (go_at_call 29; refine (lead_any _ _).mono ?_; rintro e w' ⟨n, hn, rfl, rfl⟩) | go_in)
  go_ret2
  exact ⟨_, hn, rfl, rfl⟩
theorem trail_op (a b : Int) (w : World) : Calls Try.prog 7 #[.int .i64 6, .int .i64 a, .int .i64 b] w fun e w' => ∃ n : Nat, IsLead (wrap64 (flipN a 64)) n ∧ e = .returned (.tuple #[.int .i64 n, .int .i64 0]) ∧ w' = w := by
  go_enter Try.func7, Try.ntmps7
  go_wp2_with (first | (go_at_call 28; refine (flip_any _ _).mono ?_; rintro e w' ⟨rfl, rfl⟩) | (go_at_call 29; refine (lead_any _ _).mono ?_; rintro e w' ⟨n, hn, rfl, rfl⟩) | go_in)
  go_ret2
  exact ⟨_, hn, rfl, rfl⟩
theorem flip_op (a b : Int) (w : World) : Calls Try.prog 7 #[.int .i64 7, .int .i64 a, .int .i64 b] w fun e w' => e = .returned (.tuple #[.int .i64 (wrap64 (flipN a 64)), .int .i64 0]) ∧ w' = w := by
  go_enter Try.func7, Try.ntmps7
  go_wp2_with (first | (go_at_call 28; refine (flip_any _ _).mono ?_; rintro e w' ⟨rfl, rfl⟩) | go_in)
  go_ret2
  exact ⟨rfl, rfl⟩
end Go.Proofs.Ytecimplpfghikab.word
