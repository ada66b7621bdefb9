/- Single bits of unsigned words, and what the document's own answer for a bit makes. -/
import Derived.Test.YtecimplpfghikabRows
import Derived.Test.YtecimplpfghikabTurn
import Derived.WalkKit
import Derived.ProofKit
import Derived.OpenShut
import Derived.WalkSpells
import Derived.WalkLawsBesides
namespace Go.Proofs.Ytecimplpfghikab.word
open Go.ChangeShapes Go.WideShapes Go.ChangeAt Go.RowKit
open wrapped
set_option linter.unusedVariables false
theorem bits_uone (x : Int) (h0 : 0 ≤ x) (h1 : x < 18446744073709551616) : bits .and .u64 x 1 = x % 2 := by
  obtain ⟨n, rfl⟩ := Int.eq_ofNat_of_zero_le h0
  have e := u64_and_nat n 1 (by omega) (by omega)
  rw [Nat.and_one_is_mod] at e
  exact e.trans (by omega)
theorem bits_shift (x : Int) (k : Nat) (h0 : 0 ≤ x) (h1 : x < 18446744073709551616) : bits .and .u64 (x / 2 ^ k) 1 = bitOf x k := by
  have p := pos2 k
  have h2 : 0 ≤ x / 2 ^ k := Int.ediv_nonneg h0 (Int.le_of_lt p)
  have h3 : x / 2 ^ k ≤ x := Int.ediv_le_self _ h0
  exact bits_uone _ h2 (by omega)
theorem refbit_any (a : Int) (k : Nat) (hk : k < 64) (w : World) : Calls Try.prog 13 #[.int .i64 a, .int .i64 k] w fun e w' => e = .returned (.int .i64 (bitOf a k)) ∧ w' = w := by
  have hu : IntKind.u64.wrap a = a % 18446744073709551616 := IntKind.wrap_u64 a
  have hbit := bits_shift (a % 18446744073709551616) k (by omega) (by omega)
  have hm : Hid (bitOf (a % 18446744073709551616) k = bitOf a k) := bitOf_mod a 64 k hk
  have hb := bitOf_01 (a % 18446744073709551616) k
  go_enter Try.func13, Try.ntmps13
  go_wp2
  go_ret
  exact ⟨ret_int hm.out, rfl⟩
end Go.Proofs.Ytecimplpfghikab.word
