/- Contracts of package word's functions that go through bits: bit, ones, lead, flip. -/
import Derived.Test.YtecimplpfghikabRows
import Derived.Test.YtecimplpfghikabBits
import Derived.WalkKit
import Derived.ProofKit
import Derived.OpenShut
import Derived.WalkSpells
import Derived.WalkLawsBesides
namespace Go.Proofs.Ytecimplpfghikab.word
open Go.ChangeShapes Go.WideShapes Go.ChangeAt Go.RowKit
open wrapped
set_option linter.unusedVariables false

theorem bit_any (a : Int) (k : Nat) (hk : k < 64) (w : World) : Calls Try.prog 37 #[.int .i64 a, .int .i64 k] w fun e w' => e = .returned (.int .i64 (bitOf a k)) ∧ w' = w := by
  go_enter Try.func37, Try.ntmps37
  go_wp2
  go_ret
  refine ⟨ret_int ?_, rfl⟩
  rw [bits_one]
  rfl
theorem ones_any (a : Int) (w : World) : Calls Try.prog 27 #[.int .i64 a] w fun e w' => e = .returned (.int .i64 (onesN a 64)) ∧ w' = w := by
  go_enter Try.func27, Try.ntmps27
  go_wp2
  go_loop [3, 5] (fun n i => ∃ k : Nat, k ≤ 64 ∧ i = .int .i64 k ∧ n = .int .i64 (onesN a k)) (fun _ i => 64 - (intOf i).toNat)
  case atStart => exact ⟨0, Nat.zero_le _, rfl, rfl⟩
  case round =>
    obtain ⟨k, hk, rfl, rfl⟩ := hrel
    have hd := onesN_bd a k
    have hb := bitOf_01 a k
    by_cases hlt : k < 64
    · go_wp2_with (go_at_call 37; refine (bit_any _ _ hlt _).mono ?_; rintro e w' ⟨rfl, rfl⟩)
      go_round
      case rel => exact ⟨k + 1, by omega, by go_num, rfl⟩
      case measure => simp [intOf]; omega
    · go_wp2
      go_ret
      have : k = 64 := by omega
      subst this
      exact ⟨rfl, rfl⟩
theorem flip_any (a : Int) (w : World) : Calls Try.prog 28 #[.int .i64 a] w fun e w' => e = .returned (.int .i64 (wrap64 (flipN a 64))) ∧ w' = w := by
  go_enter Try.func28, Try.ntmps28
  go_wp2
  go_loop [3, 5] (fun n i => ∃ k : Nat, k ≤ 64 ∧ i = .int .i64 k ∧ ∃ x : Int, n = .int .i64 x ∧ Hid (x = wrap64 (flipN a k))) (fun _ i => 64 - (intOf i).toNat)
  case atStart => exact ⟨0, Nat.zero_le _, rfl, 0, rfl, by show (0 : Int) = wrap64 (flipN a 0); simp [flipN, wrap64]⟩
  case round =>
    obtain ⟨k, hk, rfl, x, rfl, hx⟩ := hrel
    have hb := bitOf_01 a k
    by_cases hlt : k < 64
    · go_wp2_with (go_at_call 37; refine (bit_any _ _ hlt _).mono ?_; rintro e w' ⟨rfl, rfl⟩)
      go_round
      case rel =>
        refine ⟨k + 1, by omega, by go_num, _, rfl, ?_⟩
        show _ = wrap64 (flipN a (k + 1))
        simp only [flipN]
        have h2 := or_bit x (bitOf a k) hb.1 hb.2
        have h3 : wrap64 (x * 2 + bitOf a k) = wrap64 (flipN a k * 2 + bitOf a k) := by
          rw [hx.out]; unfold wrap64; omega
        rw [← h3, ← h2]
      case measure => simp [intOf]; omega
    · go_wp2
      go_ret
      have : k = 64 := by omega
      subst this
      exact ⟨ret_int hx.out, rfl⟩
/-- n is the number of bits above the highest 1. -/
def IsLead (a : Int) (n : Nat) : Prop := n ≤ 64 ∧ (∀ j, j < n → bitOf a (63 - j) = 0) ∧ (n < 64 → bitOf a (63 - n) = 1)
theorem lead_any (a : Int) (w : World) : Calls Try.prog 29 #[.int .i64 a] w fun e w' => ∃ n : Nat, IsLead a n ∧ e = .returned (.int .i64 n) ∧ w' = w := by
  go_enter Try.func29, Try.ntmps29
  go_wp2
  go_loop [4] (fun i => ∃ k : Nat, k ≤ 64 ∧ i = .int .i64 k ∧ Hid (∀ j, j < k → bitOf a (63 - j) = 0)) (fun i => 64 - (intOf i).toNat)
  case atStart => exact ⟨0, Nat.zero_le _, rfl, fun j h => absurd h (by omega)⟩
  case round =>
    obtain ⟨k, hk, rfl, hx⟩ := hrel
    by_cases hlt : k < 64
    · have hb := bitOf_01 a (63 - k)
      have hc : (63 - (k : Int)) = ((63 - k : Nat) : Int) := by omega
      have hbit : Calls Try.prog 37 #[.int .i64 a, .int .i64 (63 - (k : Int))] w fun e w' => e = .returned (.int .i64 (bitOf a (63 - k))) ∧ w' = w := by
        rw [hc]; exact bit_any a (63 - k) (by omega) w
      clear hc
      by_cases h1 : bitOf a (63 - k) = 1
      · go_wp2_with (go_at_call 37; refine hbit.mono ?_; rintro e w' ⟨rfl, rfl⟩)
        go_ret
        exact ⟨k, ⟨hk, hx.out, fun _ => h1⟩, rfl, rfl⟩
      · have h0 : Hid (bitOf a (63 - k) = 0) := by show bitOf a (63 - k) = 0; omega
        go_wp2_with (go_at_call 37; refine hbit.mono ?_; rintro e w' ⟨rfl, rfl⟩)
        go_round
        case rel =>
          refine ⟨k + 1, by omega, by go_num, fun j hj => ?_⟩
          by_cases hjk : j = k
          · subst hjk; exact h0.out
          · exact hx.out j (by omega)
        case measure => simp [intOf]; omega
    · go_wp2
      go_ret
      have : k = 64 := by omega
      subst this
      exact ⟨64, ⟨by omega, hx.out, fun h => absurd h (by omega)⟩, rfl, rfl⟩
end Go.Proofs.Ytecimplpfghikab.word
