/- Four bytes read as a number: the contracts of package octet's GetFixed and of the document's own. -/
import Derived.Test.YtecimplpfghikaaGet
namespace Go.Proofs.Ytecimplpfghikaa.octet
open Go.ChangeShapes Go.WideShapes Go.ChangeAt Go.RowKit
open wrapped
set_option linter.unusedVariables false
/-- The number of the first k bytes. -/
def big (g : Nat → Nat) : Nat → Nat
  | 0 => 0
  | k + 1 => big g k * 256 + g k
theorem big_lt (g : Nat → Nat) (hg : ∀ i, g i < 256) (k : Nat) : big g k < 256 ^ k := by
  induction k with
  | zero => show (0 : Nat) < 1; decide
  | succ k ih =>
    show big g k * 256 + g k < 256 ^ (k + 1)
    rw [Nat.pow_succ]
    have := hg k
    omega
/-- What GetFixed answers at every place. -/
def gotFix (f : Nat → Nat) (n : Nat) (at_ : Int) : Int × Int × Int := if 0 ≤ at_ ∧ at_ ≤ n then (if (n : Int) - at_ < 4 then (0, 0, 10) else (((big (fun i => f (at_.toNat + i)) 4 : Nat) : Int), at_ + 4, 0)) else (0, 0, 1)
theorem or_byte (V C : Nat) (hC : C < 256) : V * 256 ||| C = V * 256 + C := by
  have := Nat.two_pow_add_eq_or_of_lt (i := 8) (b := C) hC V
  rw [show V * 256 = 2 ^ 8 * V by omega]; exact this.symm
set_option maxHeartbeats 1000000 in
set_option maxRecDepth 100000 in
theorem getfix_walk (a : Option Addr) (n c s : Nat) (f : Nat → Nat) (w : World) (hr : Row w a n f) (hs : s + 4 ≤ n) (hnI : (n : Int) ≤ 9223372036854775807) (X : Int) (hX : Hid (((big (fun i => f (s + i)) 4 : Nat) : Int) = X)) :
    Calls Try.prog 21 #[.slice a n c, .int .i64 ((s : Nat) : Int)] w fun e w' => e = .returned (.tuple #[.int .u32 X, .int .i64 ((s : Int) + 4), .int .i64 0]) ∧ w' = w := by
  obtain ⟨hlen, hf, hcells⟩ := hr
  have hsI : (s : Int) + 4 ≤ n := by omega
  have hsn : (s : Int) ≤ n := by omega
  have hs4 : ¬ ((n : Int) - (s : Int) < 4) := by omega
  rcases hcells with h0 | ⟨b, off, rfl, hcell⟩
  · omega
  clear hlen
  go_enter Try.func21, Try.ntmps21
  go_wp2_with (go_in)
  go_loop [7, 18] (fun x i => ∃ k : Nat, k ≤ 4 ∧ i = .int .i64 k ∧ x = .int .u32 ((big (fun i => f (s + i)) k : Nat) : Int)) (fun _ i => 4 - (intOf i).toNat)
  case atStart => exact ⟨0, by omega, rfl, rfl⟩
  case round =>
    obtain ⟨k, hk, rfl, rfl⟩ := hrel
    by_cases h4 : k < 4
    · have hc := hcell (s + k) (by omega)
      have hfk := hf (s + k)
      have hc2 : w.cell? ⟨b, off + s + k, none⟩ = some (.int .u8 ((f (s + k) : Nat) : Int)) := by rw [Nat.add_assoc]; exact hc
      have hb : big (fun i => f (s + i)) (k + 1) = big (fun i => f (s + i)) k * 256 + f (s + k) := rfl
      have hl := big_lt (fun i => f (s + i)) (fun i => hf _) k
      have hl2 : 256 ^ k ≤ 256 ^ 3 := Nat.pow_le_pow_right (by decide) (by omega)
      have hl3 : big (fun i => f (s + i)) k < 16777216 := Nat.lt_of_lt_of_le hl hl2
      generalize f (s + k) = C at *
      have ho : bits .or .u32 (((big (fun i => f (s + i)) k : Nat) : Int) * 256) (C : Int) = ((big (fun i => f (s + i)) (k + 1) : Nat) : Int) := by
        have := u32_or_nat (big (fun i => f (s + i)) k * 256) C (by omega) (by omega)
        rw [or_byte _ C hfk] at this
        rw [hb]
        rw [Int.natCast_mul] at this
        exact this
      obtain ⟨V, hV⟩ : ∃ V : Int, Hid (((big (fun i => f (s + i)) k : Nat) : Int) = V) := ⟨_, rfl⟩
      obtain ⟨W, hW⟩ : ∃ W : Int, Hid (((big (fun i => f (s + i)) (k + 1) : Nat) : Int) = W) := ⟨_, rfl⟩
      have hV0 : 0 ≤ V := by rw [← hV.out]; omega
      have hVI : V < 16777216 := by rw [← hV.out]; omega
      rw [hV.out] at ho ⊢
      rw [hW.out] at ho
      clear hcell hf hX hb hl hl2 hl3 hV
      go_wp2
      go_round
      case rel => exact ⟨k + 1, by omega, by go_num, by rw [hW.out]⟩
      case measure => simp [intOf]; omega
    · have hk4 : k = 4 := by omega
      subst hk4
      rw [hX.out]
      clear hcell hf hX
      go_wp2
      go_ret3
      exact ⟨rfl, rfl⟩
set_option maxHeartbeats 1000000 in
set_option maxRecDepth 100000 in
theorem refgetfix_walk (a : Option Addr) (n c s : Nat) (f : Nat → Nat) (w : World) (hr : Row w a n f) (hs : s + 4 ≤ n) (hnI : (n : Int) ≤ 9223372036854775807) (X : Int) (hX : Hid (((big (fun i => f (s + i)) 4 : Nat) : Int) = X)) :
    Calls Try.prog 22 #[.slice a n c, .int .i64 ((s : Nat) : Int)] w fun e w' => e = .returned (.tuple #[.int .u32 X, .int .i64 ((s : Int) + 4), .int .i64 0]) ∧ w' = w := by
  obtain ⟨hlen, hf, hcells⟩ := hr
  have hsI : (s : Int) + 4 ≤ n := by omega
  have hsn : (s : Int) ≤ n := by omega
  have hs4 : ¬ ((n : Int) - (s : Int) < 4) := by omega
  rcases hcells with h0 | ⟨b, off, rfl, hcell⟩
  · omega
  clear hlen
  go_enter Try.func22, Try.ntmps22
  go_wp2
  go_loop [7, 8] (fun x i => ∃ k : Nat, k ≤ 4 ∧ i = .int .i64 k ∧ x = .int .u32 ((big (fun i => f (s + i)) k : Nat) : Int)) (fun _ i => 4 - (intOf i).toNat)
  case atStart => exact ⟨0, by omega, rfl, rfl⟩
  case round =>
    obtain ⟨k, hk, rfl, rfl⟩ := hrel
    by_cases h4 : k < 4
    · have hc := hcell (s + k) (by omega)
      have hfk := hf (s + k)
      have hc2 : w.cell? ⟨b, off + s + k, none⟩ = some (.int .u8 ((f (s + k) : Nat) : Int)) := by rw [Nat.add_assoc]; exact hc
      have hb : big (fun i => f (s + i)) (k + 1) = big (fun i => f (s + i)) k * 256 + f (s + k) := rfl
      have hl := big_lt (fun i => f (s + i)) (fun i => hf _) k
      have hl2 : 256 ^ k ≤ 256 ^ 3 := Nat.pow_le_pow_right (by decide) (by omega)
      have hl3 : big (fun i => f (s + i)) k < 16777216 := Nat.lt_of_lt_of_le hl hl2
      generalize f (s + k) = C at *
      obtain ⟨V, hV⟩ : ∃ V : Int, Hid (((big (fun i => f (s + i)) k : Nat) : Int) = V) := ⟨_, rfl⟩
      obtain ⟨W, hW⟩ : ∃ W : Int, Hid (((big (fun i => f (s + i)) (k + 1) : Nat) : Int) = W) := ⟨_, rfl⟩
      have hV0 : 0 ≤ V := by rw [← hV.out]; omega
      have hVI : V < 16777216 := by rw [← hV.out]; omega
      have hWH : Hid (W = V * 256 + (C : Int)) := by show W = _; rw [← hV.out, ← hW.out]; omega
      rw [hV.out]
      clear hcell hf hX hb hl hl2 hl3 hV
      go_wp2
      go_round
      case rel => exact ⟨k + 1, by omega, by go_num, by rw [hW.out, hWH.out]⟩
      case measure => simp [intOf]; omega
    · have hk4 : k = 4 := by omega
      subst hk4
      rw [hX.out]
      clear hcell hf hX
      go_wp2
      go_ret3
      exact ⟨rfl, rfl⟩
theorem getfix_any (a : Option Addr) (n c : Nat) (at_ : Int) (f : Nat → Nat) (w : World) (hr : Row w a n f) (X E R : Int) (h : gotFix f n at_ = (X, E, R)) (l1 : -9223372036854775808 ≤ at_) (l2 : at_ ≤ 9223372036854775807) :
    (Calls Try.prog 21 #[.slice a n c, .int .i64 at_] w fun e w' => e = .returned (.tuple #[.int .u32 X, .int .i64 E, .int .i64 R]) ∧ w' = w) ∧
    (Calls Try.prog 22 #[.slice a n c, .int .i64 at_] w fun e w' => e = .returned (.tuple #[.int .u32 X, .int .i64 E, .int .i64 R]) ∧ w' = w) := by
  unfold gotFix at h
  by_cases hb : 0 ≤ at_ ∧ at_ ≤ n
  · rw [if_pos hb] at h
    by_cases h4 : (n : Int) - at_ < 4
    · rw [if_pos h4] at h
      simp only [Prod.mk.injEq] at h
      obtain ⟨rfl, rfl, rfl⟩ := h
      have hn : (n : Int) ≤ 9223372036854775807 := by have := hr.1; omega
      obtain ⟨hb0, hb1⟩ := hb
      clear hr
      constructor
      · go_enter Try.func21, Try.ntmps21
        go_wp2_with (go_in)
        go_ret3
        exact ⟨rfl, rfl⟩
      · go_enter Try.func22, Try.ntmps22
        go_wp2
        go_ret3
        exact ⟨rfl, rfl⟩
    · rw [if_neg h4] at h
      simp only [Prod.mk.injEq] at h
      obtain ⟨hX, hE, hR⟩ := h
      have e : at_ = ((at_.toNat : Nat) : Int) := by omega
      have r1 := getfix_walk a n c at_.toNat f w hr (by omega) (by have := hr.1; omega) X hX
      have r2 := refgetfix_walk a n c at_.toNat f w hr (by omega) (by have := hr.1; omega) X hX
      rw [← e, hE, hR] at r1 r2
      exact ⟨r1, r2⟩
  · rw [if_neg hb] at h
    simp only [Prod.mk.injEq] at h
    obtain ⟨rfl, rfl, rfl⟩ := h
    have hn : (n : Int) ≤ 9223372036854775807 := by have := hr.1; omega
    clear hr
    by_cases h0 : at_ < 0
    · clear hb
      constructor
      · go_enter Try.func21, Try.ntmps21
        go_wp2_with (go_in)
        go_ret3
        exact ⟨rfl, rfl⟩
      · go_enter Try.func22, Try.ntmps22
        go_wp2
        go_ret3
        exact ⟨rfl, rfl⟩
    · have h1 : (n : Int) < at_ := by omega
      have h2 : decide (at_ ≤ (n : Int)) = false := decide_eq_false (by omega)
      clear hb
      constructor
      · go_enter Try.func21, Try.ntmps21
        go_wp2_with (go_in)
        go_ret3
        exact ⟨rfl, rfl⟩
      · clear h2
        go_enter Try.func22, Try.ntmps22
        go_wp2
        go_ret3
        exact ⟨rfl, rfl⟩
end Go.Proofs.Ytecimplpfghikaa.octet
