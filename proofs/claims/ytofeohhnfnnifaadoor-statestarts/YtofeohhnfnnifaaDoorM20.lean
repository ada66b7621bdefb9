/- Contract of math/bits.RotateLeft64 and of package word's rotl. -/
import Derived.Test.YtofeohhnfnnifaaDoorRows
import Derived.Test.YtofeohhnfnnifaaDoorM16
import Derived.WalkKit
import Derived.ProofKit
import Derived.OpenShut
import Derived.WalkSpells
import Derived.WalkLawsBesides
import Derived.Test.YtofeohhnfnnifaaDoorM19
namespace Go.Proofs.YtofeohhnfnnifaaDoor.word
open Go.ChangeShapes Go.WideShapes Go.ChangeAt Go.RowKit
open wrapped
set_option linter.unusedVariables false
theorem rot64_any (x : Int) (s : Nat) (hs : s < 64) (h0 : 0 ≤ x) (h1 : x < 18446744073709551616) (w : World) : Calls Tryd.prog 90 #[.int .u64 x, .int .i64 s] w fun e w' => e = .returned (.int .u64 (rotN x s)) ∧ w' = w := by
  have e1 := bits_u63 s hs
  go_enter Tryd.func90, Tryd.ntmps90
  go_wp2
  go_ret
  refine ⟨ret_int ?_, rfl⟩
  have e2 := rot_or x s h0 h1 hs
  rw [← e2, IntKind.wrap_u64]
theorem rot64_as (a b : Int) (w : World) : Calls Tryd.prog 90 #[.int .u64 (IntKind.u64.wrap a), .int .i64 (bits .and .i64 b 63)] w fun e w' => e = .returned (.int .u64 (rotN (a % 18446744073709551616) (b % 64).toNat)) ∧ w' = w := by
  have e1 : bits .and .i64 b 63 = ((b % 64).toNat : Int) := by rw [bits_63]; omega
  rw [e1, IntKind.wrap_u64]
  exact rot64_any _ _ (by omega) (by omega) (by omega) w
theorem rotl_any (a b : Int) (w : World) : Calls Tryd.prog 55 #[.int .i64 28, .int .i64 a, .int .i64 b] w fun e w' => e = .returned (.tuple #[.int .i64 (wrap64 (rotN (a % 18446744073709551616) (b % 64).toNat)), .int .i64 0]) ∧ w' = w := by
  go_enter Tryd.func55, Tryd.ntmps55
  go_wp2_with (first | (go_at_call 90; refine (rot64_as _ _ _).mono ?_; rintro e w' ⟨rfl, rfl⟩) | go_in)
  go_ret2
  exact ⟨rfl, rfl⟩
end Go.Proofs.YtofeohhnfnnifaaDoor.word
/- Contracts of package word's Apply at the operations of bits, shifts and comparisons, and that Apply always answers. -/
namespace Go.Proofs.YtofeohhnfnnifaaDoor.word
open Go.ChangeShapes Go.WideShapes Go.ChangeAt Go.RowKit
open wrapped
set_option linter.unusedVariables false
theorem no_op (k a b : Int) (w : World) (h : k < 1 ∨ 36 < k) : Calls Tryd.prog 55 #[.int .i64 k, .int .i64 a, .int .i64 b] w fun e w' => e = .returned (.tuple #[.int .i64 0, .int .i64 22]) ∧ w' = w := by
  rcases h with h | h
  · go_enter Tryd.func55, Tryd.ntmps55
    go_wp2
    go_ret2
    exact ⟨rfl, rfl⟩
  · have h' : ¬ k < 1 := by omega
    go_enter Tryd.func55, Tryd.ntmps55
    go_wp2
    go_ret2
    exact ⟨rfl, rfl⟩
theorem ones_op (a b : Int) (w : World) : Calls Tryd.prog 55 #[.int .i64 4, .int .i64 a, .int .i64 b] w fun e w' => e = .returned (.tuple #[.int .i64 (onesN a 64), .int .i64 0]) ∧ w' = w := by
  go_enter Tryd.func55, Tryd.ntmps55
  go_wp2_with (first | (go_at_call 86; refine (ones_any _ _).mono ?_; rintro e w' ⟨rfl, rfl⟩) | go_in)
  go_ret2
  exact ⟨rfl, rfl⟩
theorem lead_op (a b : Int) (w : World) : Calls Tryd.prog 55 #[.int .i64 5, .int .i64 a, .int .i64 b] w fun e w' => ∃ n : Nat, IsLead a n ∧ e = .returned (.tuple #[.int .i64 n, .int .i64 0]) ∧ w' = w := by
  go_enter Tryd.func55, Tryd.ntmps55
  go_wp2_with (first | (go_at_call 88; refine (lead_any _ _).mono ?_; rintro e w' ⟨n, hn, rfl, rfl⟩) | go_in)
  go_ret2
  exact ⟨_, hn, rfl, rfl⟩
theorem trail_op (a b : Int) (w : World) : Calls Tryd.prog 55 #[.int .i64 6, .int .i64 a, .int .i64 b] w fun e w' => ∃ n : Nat, IsLead (wrap64 (flipN a 64)) n ∧ e = .returned (.tuple #[.int .i64 n, .int .i64 0]) ∧ w' = w := by
  go_enter Tryd.func55, Tryd.ntmps55
  go_wp2_with (first | (go_at_call 87; refine (flip_any _ _).mono ?_; rintro e w' ⟨rfl, rfl⟩) | (go_at_call 88; refine (lead_any _ _).mono ?_; rintro e w' ⟨n, hn, rfl, rfl⟩) | go_in)
  go_ret2
  exact ⟨_, hn, rfl, rfl⟩
theorem flip_op (a b : Int) (w : World) : Calls Tryd.prog 55 #[.int .i64 7, .int .i64 a, .int .i64 b] w fun e w' => e = .returned (.tuple #[.int .i64 (wrap64 (flipN a 64)), .int .i64 0]) ∧ w' = w := by
  go_enter Tryd.func55, Tryd.ntmps55
  go_wp2_with (first | (go_at_call 87; refine (flip_any _ _).mono ?_; rintro e w' ⟨rfl, rfl⟩) | go_in)
  go_ret2
  exact ⟨rfl, rfl⟩
end Go.Proofs.YtofeohhnfnnifaaDoor.word
