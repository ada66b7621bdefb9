/- Contract of math/bits.RotateLeft64 and of package word's rotl. -/
import Derived.Test.YtecimplpfghikabRows
import Derived.Test.YtecimplpfghikabBits
import Derived.WalkKit
import Derived.ProofKit
import Derived.OpenShut
import Derived.WalkSpells
import Derived.WalkLawsBesides
namespace Go.Proofs.Ytecimplpfghikab.word
open Go.ChangeShapes Go.WideShapes Go.ChangeAt Go.RowKit
open wrapped
set_option linter.unusedVariables false
theorem rot64_any (x : Int) (s : Nat) (hs : s < 64) (h0 : 0 ≤ x) (h1 : x < 18446744073709551616) (w : World) : Calls Try.prog 31 #[.int .u64 x, .int .i64 s] w fun e w' => e = .returned (.int .u64 (rotN x s)) ∧ w' = w := by
  have e1 := bits_u63 s hs
  go_enter Try.func31, Try.ntmps31
  go_wp2
  go_ret
  refine ⟨ret_int ?_, rfl⟩
  have e2 := rot_or x s h0 h1 hs
  rw [← e2, IntKind.wrap_u64]
theorem rot64_as (a b : Int) (w : World) : Calls Try.prog 31 #[.int .u64 (IntKind.u64.wrap a), .int .i64 (bits .and .i64 b 63)] w fun e w' => e = .returned (.int .u64 (rotN (a % 18446744073709551616) (b % 64).toNat)) ∧ w' = w := by
  have e1 : bits .and .i64 b 63 = ((b % 64).toNat : Int) := by rw [bits_63]; omega
  rw [e1, IntKind.wrap_u64]
  exact rot64_any _ _ (by omega) (by omega) (by omega) w
theorem rotl_any (a b : Int) (w : World) : Calls Try.prog 7 #[.int .i64 28, .int .i64 a, .int .i64 b] w fun e w' => e = .returned (.tuple #[.int .i64 (wrap64 (rotN (a % 18446744073709551616) (b % 64).toNat)), .int .i64 0]) ∧ w' = w := by
  go_enter Try.func7, Try.ntmps7
  go_wp2_with (first | (go_at_call 31; refine (rot64_as _ _ _).mono ?_; rintro e w' ⟨rfl, rfl⟩) | go_in)
  go_ret2
  exact ⟨rfl, rfl⟩
end Go.Proofs.Ytecimplpfghikab.word
