/- Contracts of package octet's Zag and Fixed, and of the document's own Zig, Zag and Fixed. -/
import Derived.Test.YtecimplpfghikaaSize
import Derived.Handy
namespace Go.Proofs.Ytecimplpfghikaa.octet
open Go.ChangeShapes Go.WideShapes Go.ChangeAt Go.RowKit
open wrapped
set_option linter.unusedVariables false
/-- Zigzag, back. -/
def zb (u : Int) : Int := if u % 2 = 1 then -(u / 2) - 1 else u / 2
theorem zag_any (u : Int) (h0 : 0 ≤ u) (h1 : u < 18446744073709551616) (w : World) : Calls Try.prog 34 #[.int .u64 u] w fun e w' => e = .returned (.int .i64 (zb u)) ∧ w' = w := by
  have e1 : bits .and .u64 u 1 = u % 2 := by
    obtain ⟨n, rfl⟩ := Int.eq_ofNat_of_zero_le h0
    have e := u64_and_nat n 1 (by omega) (by omega)
    rw [Nat.and_one_is_mod] at e
    exact e.trans (by omega)
  rcases (by omega : u % 2 = 0 ∨ u % 2 = 1) with hp | hp
  · rw [hp] at e1
    have e2 : bits .xor .i64 (u / 2) 0 = u / 2 := by
      have e := wrap64_toInt (u / 2)
      rw [wrap64_id _ (by omega) (by omega)] at e
      rw [bits_xor_eq, show BitVec.ofInt 64 0 = 0#64 from by decide, BitVec.xor_zero, ← e]
    have e3 : Hid (zb u = u / 2) := by show zb u = _; unfold zb; rw [if_neg (by omega)]
    clear hp
    go_enter Try.func34, Try.ntmps34
    go_wp2
    go_ret
    exact ⟨ret_int e3.out.symm, rfl⟩
  · rw [hp] at e1
    have e2 : bits .xor .i64 (u / 2) (-1) = -1 - u / 2 := by
      have e1 : BitVec.ofInt 64 (u / 2) ^^^ BitVec.ofInt 64 (-1) = ~~~ (BitVec.ofInt 64 (u / 2)) := by
        have : BitVec.ofInt 64 (-1) = BitVec.allOnes 64 := by decide
        rw [this, BitVec.xor_allOnes]
      rw [bits_xor_eq, e1, BitVec.toInt_not, BitVec.toNat_ofInt, Int.bmod_def]
      simp only [show (2 ^ 64 : Nat) = 18446744073709551616 from by decide, show (2 ^ 64 : Int) = 18446744073709551616 from by decide]
      split <;> omega
    have e3 : Hid (zb u = -1 - u / 2) := by show zb u = _; unfold zb; rw [if_pos hp]; omega
    clear hp
    go_enter Try.func34, Try.ntmps34
    go_wp2
    go_ret
    exact ⟨ret_int e3.out.symm, rfl⟩
theorem refzig_any (x : Int) (h : -9223372036854775808 ≤ x) (g : x ≤ 9223372036854775807) (w : World) : Calls Try.prog 37 #[.int .i64 x] w fun e w' => e = .returned (.int .u64 (zg x)) ∧ w' = w := by
  by_cases hx : x < 0
  · have e3 : Hid (zg x = -2 * x - 1) := by show zg x = _; unfold zg; rw [if_pos hx]
    go_enter Try.func37, Try.ntmps37
    go_wp2
    go_ret
    exact ⟨ret_int (by rw [e3.out]; try simp only [IntKind.wrap_u64]
                       omega), rfl⟩
  · have e3 : Hid (zg x = 2 * x) := by show zg x = _; unfold zg; rw [if_neg hx]
    go_enter Try.func37, Try.ntmps37
    go_wp2
    go_ret
    exact ⟨ret_int (by rw [e3.out]; try simp only [IntKind.wrap_u64]
                       try omega), rfl⟩
theorem refzag_any (u : Int) (h0 : 0 ≤ u) (h1 : u < 18446744073709551616) (w : World) : Calls Try.prog 40 #[.int .u64 u] w fun e w' => e = .returned (.int .i64 (zb u)) ∧ w' = w := by
  rcases (by omega : u % 2 = 0 ∨ u % 2 = 1) with hp | hp
  · have e3 : Hid (zb u = u / 2) := by show zb u = _; unfold zb; rw [if_neg (by omega)]
    have e1 : (u % 2 == 1) = false := by simp; omega
    clear hp
    go_enter Try.func40, Try.ntmps40
    go_wp2
    go_ret
    exact ⟨ret_int e3.out.symm, rfl⟩
  · have e3 : Hid (zb u = -(u / 2) - 1) := by show zb u = _; unfold zb; rw [if_pos hp]
    have e1 : (u % 2 == 1) = true := by simp; omega
    clear hp
    go_enter Try.func40, Try.ntmps40
    go_wp2
    go_ret
    exact ⟨ret_int e3.out.symm, rfl⟩
end Go.Proofs.Ytecimplpfghikaa.octet
