/- Contracts of package word's operations, one a Go function and operation: what each answers, in a world that stays as it is. -/
import Derived.Test.YtofeohhnfnnifaaDoorRows
import Derived.WalkKit
import Derived.ProofKit
import Derived.OpenShut
import Derived.WalkSpells
import Derived.WalkLawsBesides
import Derived.Test.YtofeohhnfnnifaaDoorM16
namespace Go.Proofs.YtofeohhnfnnifaaDoor.word
open Go.ChangeShapes Go.WideShapes Go.ChangeAt Go.RowKit
set_option linter.unusedVariables false

theorem neg_any (a b : Int) (w : World) : Calls Tryd.prog 55 #[.int .i64 1, .int .i64 a, .int .i64 b] w fun e w' => e = .returned (.tuple #[.int .i64 (wrap64 (-a)), .int .i64 0]) ∧ w' = w := by
  go_enter Tryd.func55, Tryd.ntmps55
  go_wp2
  go_ret2
  exact ⟨rfl, rfl⟩

theorem not_any (a b : Int) (w : World) : Calls Tryd.prog 55 #[.int .i64 2, .int .i64 a, .int .i64 b] w fun e w' => e = .returned (.tuple #[.int .i64 (bits BinOp.xor IntKind.i64 (-1) a), .int .i64 0]) ∧ w' = w := by
  go_enter Tryd.func55, Tryd.ntmps55
  go_wp2
  go_ret2
  exact ⟨rfl, rfl⟩

theorem i8_any (a b : Int) (w : World) : Calls Tryd.prog 55 #[.int .i64 10, .int .i64 a, .int .i64 b] w fun e w' => e = .returned (.tuple #[.int .i64 (wrap64 (IntKind.i8.wrap a)), .int .i64 0]) ∧ w' = w := by
  go_enter Tryd.func55, Tryd.ntmps55
  go_wp2
  go_ret2
  exact ⟨rfl, rfl⟩

theorem i16_any (a b : Int) (w : World) : Calls Tryd.prog 55 #[.int .i64 11, .int .i64 a, .int .i64 b] w fun e w' => e = .returned (.tuple #[.int .i64 (wrap64 (IntKind.i16.wrap a)), .int .i64 0]) ∧ w' = w := by
  go_enter Tryd.func55, Tryd.ntmps55
  go_wp2
  go_ret2
  exact ⟨rfl, rfl⟩

theorem i32_any (a b : Int) (w : World) : Calls Tryd.prog 55 #[.int .i64 12, .int .i64 a, .int .i64 b] w fun e w' => e = .returned (.tuple #[.int .i64 (wrap64 (wrap32 a)), .int .i64 0]) ∧ w' = w := by
  go_enter Tryd.func55, Tryd.ntmps55
  go_wp2
  go_ret2
  exact ⟨rfl, rfl⟩

theorem u8_any (a b : Int) (w : World) : Calls Tryd.prog 55 #[.int .i64 13, .int .i64 a, .int .i64 b] w fun e w' => e = .returned (.tuple #[.int .i64 (a % 256), .int .i64 0]) ∧ w' = w := by
  go_enter Tryd.func55, Tryd.ntmps55
  go_wp2
  go_ret2
  exact ⟨rfl, rfl⟩

theorem u16_any (a b : Int) (w : World) : Calls Tryd.prog 55 #[.int .i64 14, .int .i64 a, .int .i64 b] w fun e w' => e = .returned (.tuple #[.int .i64 (wrap64 (IntKind.u16.wrap a)), .int .i64 0]) ∧ w' = w := by
  go_enter Tryd.func55, Tryd.ntmps55
  go_wp2
  go_ret2
  exact ⟨rfl, rfl⟩

theorem u32_any (a b : Int) (w : World) : Calls Tryd.prog 55 #[.int .i64 15, .int .i64 a, .int .i64 b] w fun e w' => e = .returned (.tuple #[.int .i64 (a % 4294967296), .int .i64 0]) ∧ w' = w := by
  go_enter Tryd.func55, Tryd.ntmps55
  go_wp2
  go_ret2
  exact ⟨rfl, rfl⟩

theorem add_any (a b : Int) (w : World) : Calls Tryd.prog 55 #[.int .i64 16, .int .i64 a, .int .i64 b] w fun e w' => e = .returned (.tuple #[.int .i64 (wrap64 (a + b)), .int .i64 0]) ∧ w' = w := by
  go_enter Tryd.func55, Tryd.ntmps55
  go_wp2
  go_ret2
  exact ⟨rfl, rfl⟩

theorem sub_any (a b : Int) (w : World) : Calls Tryd.prog 55 #[.int .i64 17, .int .i64 a, .int .i64 b] w fun e w' => e = .returned (.tuple #[.int .i64 (wrap64 (a + wrap64 (-b))), .int .i64 0]) ∧ w' = w := by
  go_enter Tryd.func55, Tryd.ntmps55
  go_wp2
  go_ret2
  exact ⟨rfl, rfl⟩

theorem mul_any (a b : Int) (w : World) : Calls Tryd.prog 55 #[.int .i64 18, .int .i64 a, .int .i64 b] w fun e w' => e = .returned (.tuple #[.int .i64 (wrap64 (a * b)), .int .i64 0]) ∧ w' = w := by
  go_enter Tryd.func55, Tryd.ntmps55
  go_wp2
  go_ret2
  exact ⟨rfl, rfl⟩

theorem div_zero (a b : Int) (w : World) (h : b = 0) : Calls Tryd.prog 55 #[.int .i64 19, .int .i64 a, .int .i64 b] w fun e w' => e = .returned (.tuple #[.int .i64 (0), .int .i64 20]) ∧ w' = w := by
  subst h
  go_enter Tryd.func55, Tryd.ntmps55
  go_wp2
  go_ret2
  exact ⟨rfl, rfl⟩

theorem div_any (a b : Int) (w : World) (h : (b == 0) = false) (h2 : ¬ b = 0) : Calls Tryd.prog 55 #[.int .i64 19, .int .i64 a, .int .i64 b] w fun e w' => e = .returned (.tuple #[.int .i64 (wrap64 (a.tdiv b)), .int .i64 0]) ∧ w' = w := by
  go_enter Tryd.func55, Tryd.ntmps55
  go_wp2
  go_ret2
  exact ⟨rfl, rfl⟩

theorem rem_zero (a b : Int) (w : World) (h : b = 0) : Calls Tryd.prog 55 #[.int .i64 20, .int .i64 a, .int .i64 b] w fun e w' => e = .returned (.tuple #[.int .i64 (0), .int .i64 20]) ∧ w' = w := by
  subst h
  go_enter Tryd.func55, Tryd.ntmps55
  go_wp2
  go_ret2
  exact ⟨rfl, rfl⟩

theorem rem_any (a b : Int) (w : World) (h : (b == 0) = false) (h2 : ¬ b = 0) : Calls Tryd.prog 55 #[.int .i64 20, .int .i64 a, .int .i64 b] w fun e w' => e = .returned (.tuple #[.int .i64 (a.tmod b), .int .i64 0]) ∧ w' = w := by
  go_enter Tryd.func55, Tryd.ntmps55
  go_wp2
  go_ret2
  exact ⟨rfl, rfl⟩

theorem div_as (a b q : Int) (w : World) (h : (b == 0) = false) (h2 : ¬ b = 0) (he : Hid (wrap64 (a.tdiv b) = q)) : Calls Tryd.prog 55 #[.int .i64 19, .int .i64 a, .int .i64 b] w fun e w' => e = .returned (.tuple #[.int .i64 q, .int .i64 0]) ∧ w' = w :=
  (div_any a b w h h2).mono fun e w' ⟨h1, h3⟩ => ⟨by rw [h1, he.out], h3⟩
theorem rem_as (a b r : Int) (w : World) (h : (b == 0) = false) (h2 : ¬ b = 0) (he : Hid (a.tmod b = r)) : Calls Tryd.prog 55 #[.int .i64 20, .int .i64 a, .int .i64 b] w fun e w' => e = .returned (.tuple #[.int .i64 r, .int .i64 0]) ∧ w' = w :=
  (rem_any a b w h h2).mono fun e w' ⟨h1, h3⟩ => ⟨by rw [h1, he.out], h3⟩

end Go.Proofs.YtofeohhnfnnifaaDoor.word
/- Contracts of package word's functions that go through bits: bit, ones, lead, flip. -/
namespace Go.Proofs.YtofeohhnfnnifaaDoor.word
open Go.ChangeShapes Go.WideShapes Go.ChangeAt Go.RowKit
open wrapped
set_option linter.unusedVariables false

theorem bit_any (a : Int) (k : Nat) (hk : k < 64) (w : World) : Calls Tryd.prog 92 #[.int .i64 a, .int .i64 k] w fun e w' => e = .returned (.int .i64 (bitOf a k)) ∧ w' = w := by
  go_enter Tryd.func92, Tryd.ntmps92
  go_wp2
  go_ret
  refine ⟨ret_int ?_, rfl⟩
  rw [bits_one]
  rfl
theorem ones_any (a : Int) (w : World) : Calls Tryd.prog 86 #[.int .i64 a] w fun e w' => e = .returned (.int .i64 (onesN a 64)) ∧ w' = w := by
  go_enter Tryd.func86, Tryd.ntmps86
  go_wp2
  go_loop [3, 5] (fun n i => ∃ k : Nat, k ≤ 64 ∧ i = .int .i64 k ∧ n = .int .i64 (onesN a k)) (fun _ i => 64 - (intOf i).toNat)
  case atStart => exact ⟨0, Nat.zero_le _, rfl, rfl⟩
  case round =>
    obtain ⟨k, hk, rfl, rfl⟩ := hrel
    have hd := onesN_bd a k
    have hb := bitOf_01 a k
    by_cases hlt : k < 64
    · go_wp2_with (go_at_call 92; refine (bit_any _ _ hlt _).mono ?_; rintro e w' ⟨rfl, rfl⟩)
      go_round
      case rel => exact ⟨k + 1, by omega, by go_num, rfl⟩
      case measure => simp [intOf]; omega
    · go_wp2
      go_ret
      have : k = 64 := by omega
      subst this
      exact ⟨rfl, rfl⟩
theorem flip_any (a : Int) (w : World) : Calls Tryd.prog 87 #[.int .i64 a] w fun e w' => e = .returned (.int .i64 (wrap64 (flipN a 64))) ∧ w' = w := by
  go_enter Tryd.func87, Tryd.ntmps87
  go_wp2
  go_loop [3, 5] (fun n i => ∃ k : Nat, k ≤ 64 ∧ i = .int .i64 k ∧ ∃ x : Int, n = .int .i64 x ∧ Hid (x = wrap64 (flipN a k))) (fun _ i => 64 - (intOf i).toNat)
  case atStart => exact ⟨0, Nat.zero_le _, rfl, 0, rfl, by show (0 : Int) = wrap64 (flipN a 0); simp [flipN, wrap64]⟩
  case round =>
    obtain ⟨k, hk, rfl, x, rfl, hx⟩ := hrel
    have hb := bitOf_01 a k
    by_cases hlt : k < 64
    · go_wp2_with (go_at_call 92; refine (bit_any _ _ hlt _).mono ?_; rintro e w' ⟨rfl, rfl⟩)
      go_round
      case rel =>
        refine ⟨k + 1, by omega, by go_num, _, rfl, ?_⟩
        show _ = wrap64 (flipN a (k + 1))
        simp only [flipN]
        have h2 := or_bit x (bitOf a k) hb.1 hb.2
        have h3 : wrap64 (x * 2 + bitOf a k) = wrap64 (flipN a k * 2 + bitOf a k) := by
          rw [hx.out]; unfold wrap64; omega
        rw [← h3, ← h2]
      case measure => simp [intOf]; omega
    · go_wp2
      go_ret
      have : k = 64 := by omega
      subst this
      exact ⟨ret_int hx.out, rfl⟩
/-- n is the number of bits above the highest 1. -/
def IsLead (a : Int) (n : Nat) : Prop := n ≤ 64 ∧ (∀ j, j < n → bitOf a (63 - j) = 0) ∧ (n < 64 → bitOf a (63 - n) = 1)
theorem lead_any (a : Int) (w : World) : Calls Tryd.prog 88 #[.int .i64 a] w fun e w' => ∃ n : Nat, IsLead a n ∧ e = .returned (.int .i64 n) ∧ w' = w := by
  go_enter Tryd.func88, Tryd.ntmps88
  go_wp2
  go_loop [4] (fun i => ∃ k : Nat, k ≤ 64 ∧ i = .int .i64 k ∧ Hid (∀ j, j < k → bitOf a (63 - j) = 0)) (fun i => 64 - (intOf i).toNat)
  case atStart => exact ⟨0, Nat.zero_le _, rfl, fun j h => absurd h (by omega)⟩
  case round =>
    obtain ⟨k, hk, rfl, hx⟩ := hrel
    by_cases hlt : k < 64
    · have hb := bitOf_01 a (63 - k)
      have hc : (63 - (k : Int)) = ((63 - k : Nat) : Int) := by omega
      have hbit : Calls Tryd.prog 92 #[.int .i64 a, .int .i64 (63 - (k : Int))] w fun e w' => e = .returned (.int .i64 (bitOf a (63 - k))) ∧ w' = w := by
        rw [hc]; exact bit_any a (63 - k) (by omega) w
      clear hc
      by_cases h1 : bitOf a (63 - k) = 1
      · go_wp2_with (go_at_call 92; refine hbit.mono ?_; rintro e w' ⟨rfl, rfl⟩)
        go_ret
        exact ⟨k, ⟨hk, hx.out, fun _ => h1⟩, rfl, rfl⟩
      · have h0 : Hid (bitOf a (63 - k) = 0) := by show bitOf a (63 - k) = 0; omega
        go_wp2_with (go_at_call 92; refine hbit.mono ?_; rintro e w' ⟨rfl, rfl⟩)
        go_round
        case rel =>
          refine ⟨k + 1, by omega, by go_num, fun j hj => ?_⟩
          by_cases hjk : j = k
          · subst hjk; exact h0.out
          · exact hx.out j (by omega)
        case measure => simp [intOf]; omega
    · go_wp2
      go_ret
      have : k = 64 := by omega
      subst this
      exact ⟨64, ⟨by omega, hx.out, fun h => absurd h (by omega)⟩, rfl, rfl⟩
end Go.Proofs.YtofeohhnfnnifaaDoor.word
