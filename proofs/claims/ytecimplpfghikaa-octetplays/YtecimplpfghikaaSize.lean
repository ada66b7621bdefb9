/- Contracts of package octet's Size and Zig: how many groups of seven bits a number has; zigzag. -/
import Derived.Test.YtecimplpfghikaaRows
import Derived.Test.YtecimplpfghikaaShelf
import Derived.Test.YtecimplpfghikaaBits
import Derived.Lib.BitFns
import Derived.WalkKit
import Derived.ProofKit
import Derived.OpenShut
import Derived.WalkSpells
import Derived.WalkLawsBesides
namespace Go.Proofs.Ytecimplpfghikaa.octet
open Go.ChangeShapes Go.WideShapes Go.ChangeAt Go.RowKit
open wrapped
set_option linter.unusedVariables false
/-- How many groups of seven bits a number has. -/
def szN (x : Nat) : Nat := (Lib.bitLen (x ||| 1) + 6) / 7
theorem or_one (x : Nat) : x ||| 1 = x / 2 * 2 + 1 := by
  have h : x = 2 ^ 1 * (x / 2) + x % 2 := by omega
  have e := Nat.two_pow_add_eq_or_of_lt (i := 1) (b := x % 2) (by omega) (x / 2)
  have e3 := Nat.two_pow_add_eq_or_of_lt (i := 1) (b := 1) (by decide) (x / 2)
  rw [← h] at e
  have h2 : x ||| 1 = 2 ^ 1 * (x / 2) ||| 1 := by
    conv => lhs; rw [e]
    rw [Nat.or_assoc]
    congr 1
    rcases (by omega : x % 2 = 0 ∨ x % 2 = 1) with h | h <;> rw [h] <;> rfl
  rw [h2, ← e3]; omega
theorem bitLen_or (z : Nat) (h0 : z ≠ 0) (h : z < 18446744073709551616) : Lib.bitLen (z ||| 1) = Lib.bitLen z := by
  rw [Lib.bitLen_half z h0 h, Lib.bitLen_half (z ||| 1) (by rw [or_one]; omega) (by rw [or_one, show 2 ^ 64 = 18446744073709551616 from by decide]; omega)]
  congr 2
  rw [or_one]; omega
theorem szN_small (x : Nat) (h : x < 128) : szN x = 1 := by
  have h1 : Lib.bitLen (x ||| 1) ≤ 7 := Lib.bitLen_le _ 7 (by decide) (by rw [or_one]; omega)
  have h2 := Lib.bitLen_half (x ||| 1) (by rw [or_one]; omega) (by rw [or_one, show 2 ^ 64 = 18446744073709551616 from by decide]; omega)
  unfold szN; omega
theorem szN_step (x : Nat) (h : 128 ≤ x) (hx : x < 18446744073709551616) : szN x = szN (x / 128) + 1 := by
  unfold szN
  rw [bitLen_or (x / 128) (by omega) (by omega), bitLen_or x (by omega) hx, Lib.bitLen_shift 7 x h hx]
  show (7 + Lib.bitLen (x / 128) + 6) / 7 = _
  omega
theorem szN_bd (x : Nat) (hx : x < 18446744073709551616) : 1 ≤ szN x ∧ szN x ≤ 10 := by
  have h1 : Lib.bitLen (x ||| 1) ≤ 64 := Lib.bitLen_le _ 64 (by decide) (by rw [or_one, show 2 ^ 64 = 18446744073709551616 from by decide]; omega)
  have h2 := Lib.bitLen_half (x ||| 1) (by rw [or_one]; omega) (by rw [or_one, show 2 ^ 64 = 18446744073709551616 from by decide]; omega)
  unfold szN; omega
theorem size_any (x : Nat) (hx : x < 18446744073709551616) (w : World) : Calls Try.prog 15 #[.int .u64 x] w fun e w' => e = .returned (.int .i64 (szN x : Nat)) ∧ w' = w := by
  have h1 : Lib.bitLen (x ||| 1) ≤ 64 := Lib.bitLen_le _ 64 (by decide) (by rw [or_one, show 2 ^ 64 = 18446744073709551616 from by decide]; omega)
  have hb : x ||| 1 < 18446744073709551616 := by rw [or_one]; omega
  have e1 : bits .or .u64 (x : Int) 1 = ((x ||| 1 : Nat) : Int) := u64_or_nat x 1 hx (by omega)
  have c := fun w => Try.bits_Len64 ((x ||| 1 : Nat) : Int) w (by omega) (by omega)
  rw [show (((x ||| 1 : Nat) : Int).toNat) = (x ||| 1) by omega] at c
  obtain ⟨L, hL⟩ : ∃ L, Hid (Lib.bitLen (x ||| 1) = L) := ⟨_, rfl⟩
  have hs : Hid (szN x = (L + 6) / 7) := by show szN x = _; unfold szN; rw [hL.out]
  rw [hL.out] at c h1
  obtain ⟨y, hy⟩ : ∃ y, Hid ((x ||| 1) = y) := ⟨_, rfl⟩
  rw [hy.out] at c e1
  clear hb hL hy
  go_enter Try.func15, Try.ntmps15
  go_wp2_with (go_at_call 38; with_reducible refine (c _).mono ?_; rintro e w' ⟨rfl, rfl⟩)
  go_ret
  refine ⟨ret_int ?_, rfl⟩
  rw [hs.out]; omega
/-- Zigzag. -/
def zg (x : Int) : Int := if x < 0 then -2 * x - 1 else 2 * x
theorem zg_bd (x : Int) (h : -9223372036854775808 ≤ x) (g : x ≤ 9223372036854775807) : 0 ≤ zg x ∧ zg x < 18446744073709551616 := by unfold zg; split <;> omega
theorem zig_eq (x : Int) (h : -9223372036854775808 ≤ x) (g : x ≤ 9223372036854775807) :
    bits .xor .u64 (IntKind.u64.wrap (wrap64 (x * 2))) (IntKind.u64.wrap (x / 9223372036854775808)) = zg x := by
  have e1 : IntKind.u64.wrap (wrap64 (x * 2)) = x * 2 % 18446744073709551616 := by rw [IntKind.wrap_u64]; unfold wrap64; omega
  rw [e1, IntKind.wrap_u64]
  unfold zg
  split
  · have e2 : x / 9223372036854775808 % 18446744073709551616 = 18446744073709551615 := by omega
    rw [e2]
    show IntKind.u64.wrap ((BitVec.ofInt 64 (x * 2 % 18446744073709551616) ^^^ BitVec.ofInt 64 18446744073709551615).toNat : Int) = _
    have e3 : BitVec.ofInt 64 18446744073709551615 = BitVec.allOnes 64 := by decide
    rw [e3, BitVec.xor_allOnes, BitVec.toNat_not, BitVec.toNat_ofInt, IntKind.wrap_u64]
    simp only [show (2 ^ 64 : Nat) = 18446744073709551616 from by decide]
    omega
  · have e2 : x / 9223372036854775808 % 18446744073709551616 = 0 := by omega
    rw [e2]
    have e4 := u64_xor_nat (x * 2 % 18446744073709551616).toNat 0 (by omega) (by omega)
    rw [Nat.xor_zero, show (((x * 2 % 18446744073709551616).toNat : Nat) : Int) = x * 2 % 18446744073709551616 by omega] at e4
    exact e4.trans (by omega)
theorem zig_any (x : Int) (h : -9223372036854775808 ≤ x) (g : x ≤ 9223372036854775807) (w : World) : Calls Try.prog 35 #[.int .i64 x] w fun e w' => e = .returned (.int .u64 (zg x)) ∧ w' = w := by
  have e := zig_eq x h g
  go_enter Try.func35, Try.ntmps35
  go_wp2
  go_ret
  exact ⟨rfl, rfl⟩
end Go.Proofs.Ytecimplpfghikaa.octet
