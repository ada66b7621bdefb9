/- Contracts of package word's Apply at the operations bit by bit, shifts, comparisons; and that Apply answers at every operation. -/
import Derived.Test.YtofeohhnfnnifaaDoorM20
import Derived.Test.YtofeohhnfnnifaaDoorM23
import Derived.Test.YtofeohhnfnnifaaDoorM22
namespace Go.Proofs.YtofeohhnfnnifaaDoor.word
open Go.ChangeShapes Go.WideShapes Go.ChangeAt Go.RowKit
open wrapped
set_option linter.unusedVariables false
theorem abs_op (a b : Int) (w : World) : Calls Tryd.prog 55 #[.int .i64 3, .int .i64 a, .int .i64 b] w fun e w' => e = .returned (.tuple #[.int .i64 (if a < 0 then wrap64 (-a) else a), .int .i64 0]) ∧ w' = w := by
  by_cases h : a < 0
  · rw [if_pos h]
    go_enter Tryd.func55, Tryd.ntmps55
    go_wp2
    go_ret2
    exact ⟨rfl, rfl⟩
  · rw [if_neg h]
    have h2 : 0 ≤ a := by omega
    go_enter Tryd.func55, Tryd.ntmps55
    go_wp2
    go_ret2
    exact ⟨rfl, rfl⟩
theorem bool_op (a b : Int) (w : World) : Calls Tryd.prog 55 #[.int .i64 8, .int .i64 a, .int .i64 b] w fun e w' => e = .returned (.tuple #[.int .i64 (if a = 0 then 0 else 1), .int .i64 0]) ∧ w' = w := by
  by_cases h : a = 0
  · rw [if_pos h]
    have h2 : (a != 0) = false := by simp [h]
    clear h
    go_enter Tryd.func55, Tryd.ntmps55
    go_wp2
    go_ret2
    exact ⟨rfl, rfl⟩
  · rw [if_neg h]
    have h2 : (a != 0) = true := by simp [h]
    clear h
    go_enter Tryd.func55, Tryd.ntmps55
    go_wp2
    go_ret2
    exact ⟨rfl, rfl⟩
theorem no_op1 (a b : Int) (w : World) : Calls Tryd.prog 55 #[.int .i64 9, .int .i64 a, .int .i64 b] w fun e w' => e = .returned (.tuple #[.int .i64 (if a = 0 then 1 else 0), .int .i64 0]) ∧ w' = w := by
  by_cases h : a = 0
  · rw [if_pos h]
    have h2 : (a == 0) = true := by simp [h]
    clear h
    go_enter Tryd.func55, Tryd.ntmps55
    go_wp2
    go_ret2
    exact ⟨rfl, rfl⟩
  · rw [if_neg h]
    have h2 : (a == 0) = false := by simp [h]
    clear h
    go_enter Tryd.func55, Tryd.ntmps55
    go_wp2
    go_ret2
    exact ⟨rfl, rfl⟩
theorem and_op (a b : Int) (w : World) : Calls Tryd.prog 55 #[.int .i64 21, .int .i64 a, .int .i64 b] w fun e w' => e = .returned (.tuple #[.int .i64 (bits BinOp.and IntKind.i64 a b), .int .i64 0]) ∧ w' = w := by
  go_enter Tryd.func55, Tryd.ntmps55
  go_wp2
  go_ret2
  exact ⟨rfl, rfl⟩
theorem or_op (a b : Int) (w : World) : Calls Tryd.prog 55 #[.int .i64 22, .int .i64 a, .int .i64 b] w fun e w' => e = .returned (.tuple #[.int .i64 (bits BinOp.or IntKind.i64 a b), .int .i64 0]) ∧ w' = w := by
  go_enter Tryd.func55, Tryd.ntmps55
  go_wp2
  go_ret2
  exact ⟨rfl, rfl⟩
theorem xor_op (a b : Int) (w : World) : Calls Tryd.prog 55 #[.int .i64 23, .int .i64 a, .int .i64 b] w fun e w' => e = .returned (.tuple #[.int .i64 (bits BinOp.xor IntKind.i64 a b), .int .i64 0]) ∧ w' = w := by
  go_enter Tryd.func55, Tryd.ntmps55
  go_wp2
  go_ret2
  exact ⟨rfl, rfl⟩
theorem clear_op (a b : Int) (w : World) : Calls Tryd.prog 55 #[.int .i64 24, .int .i64 a, .int .i64 b] w fun e w' => e = .returned (.tuple #[.int .i64 (bits BinOp.and IntKind.i64 a (bits BinOp.xor IntKind.i64 (-1) b)), .int .i64 0]) ∧ w' = w := by
  go_enter Tryd.func55, Tryd.ntmps55
  go_wp2
  go_ret2
  exact ⟨rfl, rfl⟩
theorem shl_neg (a b : Int) (w : World) (h : b < 0) : Calls Tryd.prog 55 #[.int .i64 25, .int .i64 a, .int .i64 b] w fun e w' => e = .returned (.tuple #[.int .i64 (0), .int .i64 21]) ∧ w' = w := by
  go_enter Tryd.func55, Tryd.ntmps55
  go_wp2
  go_ret2
  exact ⟨rfl, rfl⟩
theorem shl_op (a b : Int) (w : World) (h : 0 ≤ b) (h2 : b ≤ 9223372036854775807) : Calls Tryd.prog 55 #[.int .i64 25, .int .i64 a, .int .i64 b] w fun e w' => e = .returned (.tuple #[.int .i64 (wrap64 (a * 2 ^ min (b).toNat 64)), .int .i64 0]) ∧ w' = w := by
  go_enter Tryd.func55, Tryd.ntmps55
  go_wp2
  go_ret2
  exact ⟨rfl, rfl⟩
theorem shr_neg (a b : Int) (w : World) (h : b < 0) : Calls Tryd.prog 55 #[.int .i64 26, .int .i64 a, .int .i64 b] w fun e w' => e = .returned (.tuple #[.int .i64 (0), .int .i64 21]) ∧ w' = w := by
  go_enter Tryd.func55, Tryd.ntmps55
  go_wp2
  go_ret2
  exact ⟨rfl, rfl⟩
theorem shr_op (a b : Int) (w : World) (h : 0 ≤ b) (h2 : b ≤ 9223372036854775807) : Calls Tryd.prog 55 #[.int .i64 26, .int .i64 a, .int .i64 b] w fun e w' => e = .returned (.tuple #[.int .i64 (a / 2 ^ min (b).toNat 64), .int .i64 0]) ∧ w' = w := by
  go_enter Tryd.func55, Tryd.ntmps55
  go_wp2
  go_ret2
  exact ⟨rfl, rfl⟩
theorem ushr_neg (a b : Int) (w : World) (h : b < 0) : Calls Tryd.prog 55 #[.int .i64 27, .int .i64 a, .int .i64 b] w fun e w' => e = .returned (.tuple #[.int .i64 (0), .int .i64 21]) ∧ w' = w := by
  go_enter Tryd.func55, Tryd.ntmps55
  go_wp2
  go_ret2
  exact ⟨rfl, rfl⟩
theorem ushr_op (a b : Int) (w : World) (h : 0 ≤ b) (h2 : b ≤ 9223372036854775807) : Calls Tryd.prog 55 #[.int .i64 27, .int .i64 a, .int .i64 b] w fun e w' => e = .returned (.tuple #[.int .i64 (wrap64 (IntKind.u64.wrap a / 2 ^ min (b).toNat 64)), .int .i64 0]) ∧ w' = w := by
  go_enter Tryd.func55, Tryd.ntmps55
  go_wp2
  go_ret2
  exact ⟨rfl, rfl⟩
theorem eq_op (a b : Int) (w : World) : Calls Tryd.prog 55 #[.int .i64 29, .int .i64 a, .int .i64 b] w fun e w' => e = .returned (.tuple #[.int .i64 (if a = b then 1 else 0), .int .i64 0]) ∧ w' = w := by
  by_cases h : a = b
  · rw [if_pos h]
    have h2 : (a == b) = true := by simp [h]
    clear h
    go_enter Tryd.func55, Tryd.ntmps55
    go_wp2
    go_ret2
    exact ⟨rfl, rfl⟩
  · rw [if_neg h]
    have h2 : (a == b) = false := by simp [h]
    clear h
    go_enter Tryd.func55, Tryd.ntmps55
    go_wp2
    go_ret2
    exact ⟨rfl, rfl⟩
theorem ne_op (a b : Int) (w : World) : Calls Tryd.prog 55 #[.int .i64 30, .int .i64 a, .int .i64 b] w fun e w' => e = .returned (.tuple #[.int .i64 (if a = b then 0 else 1), .int .i64 0]) ∧ w' = w := by
  by_cases h : a = b
  · rw [if_pos h]
    have h2 : (a != b) = false := by simp [h]
    clear h
    go_enter Tryd.func55, Tryd.ntmps55
    go_wp2
    go_ret2
    exact ⟨rfl, rfl⟩
  · rw [if_neg h]
    have h2 : (a != b) = true := by simp [h]
    clear h
    go_enter Tryd.func55, Tryd.ntmps55
    go_wp2
    go_ret2
    exact ⟨rfl, rfl⟩
theorem lt_op (a b : Int) (w : World) : Calls Tryd.prog 55 #[.int .i64 31, .int .i64 a, .int .i64 b] w fun e w' => e = .returned (.tuple #[.int .i64 (if a < b then 1 else 0), .int .i64 0]) ∧ w' = w := by
  by_cases h : a < b
  · rw [if_pos h]
    go_enter Tryd.func55, Tryd.ntmps55
    go_wp2
    go_ret2
    exact ⟨rfl, rfl⟩
  · rw [if_neg h]
    have h2 : b ≤ a := by omega
    go_enter Tryd.func55, Tryd.ntmps55
    go_wp2
    go_ret2
    exact ⟨rfl, rfl⟩
theorem le_op (a b : Int) (w : World) : Calls Tryd.prog 55 #[.int .i64 32, .int .i64 a, .int .i64 b] w fun e w' => e = .returned (.tuple #[.int .i64 (if a ≤ b then 1 else 0), .int .i64 0]) ∧ w' = w := by
  by_cases h : a ≤ b
  · rw [if_pos h]
    go_enter Tryd.func55, Tryd.ntmps55
    go_wp2
    go_ret2
    exact ⟨rfl, rfl⟩
  · rw [if_neg h]
    have h2 : b < a := by omega
    go_enter Tryd.func55, Tryd.ntmps55
    go_wp2
    go_ret2
    exact ⟨rfl, rfl⟩
theorem ult_op (a b : Int) (w : World) : Calls Tryd.prog 55 #[.int .i64 33, .int .i64 a, .int .i64 b] w fun e w' => e = .returned (.tuple #[.int .i64 (if bits BinOp.xor IntKind.i64 a (-9223372036854775808) < bits BinOp.xor IntKind.i64 b (-9223372036854775808) then 1 else 0), .int .i64 0]) ∧ w' = w := by
  by_cases h : bits BinOp.xor IntKind.i64 a (-9223372036854775808) < bits BinOp.xor IntKind.i64 b (-9223372036854775808)
  · rw [if_pos h]
    go_enter Tryd.func55, Tryd.ntmps55
    go_wp2
    go_ret2
    exact ⟨rfl, rfl⟩
  · rw [if_neg h]
    have h2 := Int.not_lt.1 h
    go_enter Tryd.func55, Tryd.ntmps55
    go_wp2
    go_ret2
    exact ⟨rfl, rfl⟩
theorem min_op (a b : Int) (w : World) : Calls Tryd.prog 55 #[.int .i64 34, .int .i64 a, .int .i64 b] w fun e w' => e = .returned (.tuple #[.int .i64 (if b < a then b else a), .int .i64 0]) ∧ w' = w := by
  by_cases h : b < a
  · rw [if_pos h]
    go_enter Tryd.func55, Tryd.ntmps55
    go_wp2
    go_ret2
    exact ⟨rfl, rfl⟩
  · rw [if_neg h]
    have h2 : a ≤ b := by omega
    go_enter Tryd.func55, Tryd.ntmps55
    go_wp2
    go_ret2
    exact ⟨rfl, rfl⟩
theorem max_op (a b : Int) (w : World) : Calls Tryd.prog 55 #[.int .i64 35, .int .i64 a, .int .i64 b] w fun e w' => e = .returned (.tuple #[.int .i64 (if a < b then b else a), .int .i64 0]) ∧ w' = w := by
  by_cases h : a < b
  · rw [if_pos h]
    go_enter Tryd.func55, Tryd.ntmps55
    go_wp2
    go_ret2
    exact ⟨rfl, rfl⟩
  · rw [if_neg h]
    have h2 : b ≤ a := by omega
    go_enter Tryd.func55, Tryd.ntmps55
    go_wp2
    go_ret2
    exact ⟨rfl, rfl⟩

/-- Apply answers, and changes nothing, whatever it is asked. -/
theorem answers (k a b : Int) (la : -9223372036854775808 ≤ a) (ha : a ≤ 9223372036854775807) (lb : -9223372036854775808 ≤ b) (hb : b ≤ 9223372036854775807) (w : World) :
    Calls Tryd.prog 55 #[.int .i64 k, .int .i64 a, .int .i64 b] w fun e w' => ∃ x y : Int, e = .returned (.tuple #[.int .i64 x, .int .i64 y]) ∧ w' = w := by
  have go : ∀ {x y : Int}, (Calls Tryd.prog 55 #[.int .i64 k, .int .i64 a, .int .i64 b] w fun e w' => e = .returned (.tuple #[.int .i64 x, .int .i64 y]) ∧ w' = w) →
      Calls Tryd.prog 55 #[.int .i64 k, .int .i64 a, .int .i64 b] w fun e w' => ∃ x y : Int, e = .returned (.tuple #[.int .i64 x, .int .i64 y]) ∧ w' = w :=
    fun h => h.mono fun e w' ⟨h1, h2⟩ => ⟨_, _, h1, h2⟩
  by_cases h1 : k < 1 ∨ 36 < k
  · exact go (no_op k a b w h1)
  have hk : ∃ n : Nat, k = n ∧ 1 ≤ n ∧ n ≤ 36 := ⟨k.toNat, by omega, by omega, by omega⟩
  obtain ⟨n, rfl, hn1, hn2⟩ := hk
  clear h1
  have hc : n = 1 ∨ n = 2 ∨ n = 3 ∨ n = 4 ∨ n = 5 ∨ n = 6 ∨ n = 7 ∨ n = 8 ∨ n = 9 ∨ n = 10 ∨ n = 11 ∨ n = 12 ∨ n = 13 ∨ n = 14 ∨ n = 15 ∨ n = 16 ∨ n = 17 ∨ n = 18 ∨ n = 19 ∨ n = 20 ∨ n = 21 ∨ n = 22 ∨ n = 23 ∨ n = 24 ∨ n = 25 ∨ n = 26 ∨ n = 27 ∨ n = 28 ∨ n = 29 ∨ n = 30 ∨ n = 31 ∨ n = 32 ∨ n = 33 ∨ n = 34 ∨ n = 35 ∨ n = 36 := by omega
  rcases hc with rfl | rfl | rfl | rfl | rfl | rfl | rfl | rfl | rfl | rfl | rfl | rfl | rfl | rfl | rfl | rfl | rfl | rfl | rfl | rfl | rfl | rfl | rfl | rfl | rfl | rfl | rfl | rfl | rfl | rfl | rfl | rfl | rfl | rfl | rfl | rfl
  · exact go (neg_any a b w)
  · exact go (not_any a b w)
  · exact go (abs_op a b w)
  · exact go (ones_op a b w)
  · exact (lead_op a b w).mono fun e w' ⟨n, _, h1, h2⟩ => ⟨_, _, h1, h2⟩
  · exact (trail_op a b w).mono fun e w' ⟨n, _, h1, h2⟩ => ⟨_, _, h1, h2⟩
  · exact go (flip_op a b w)
  · exact go (bool_op a b w)
  · exact go (no_op1 a b w)
  · exact go (i8_any a b w)
  · exact go (i16_any a b w)
  · exact go (i32_any a b w)
  · exact go (u8_any a b w)
  · exact go (u16_any a b w)
  · exact go (u32_any a b w)
  · exact go (add_any a b w)
  · exact go (sub_any a b w)
  · exact go (mul_any a b w)
  · by_cases hz : b = 0
    · exact go (div_zero a b w hz)
    · exact go (div_any a b w (by simpa using hz) hz)
  · by_cases hz : b = 0
    · exact go (rem_zero a b w hz)
    · exact go (rem_any a b w (by simpa using hz) hz)
  · exact go (and_op a b w)
  · exact go (or_op a b w)
  · exact go (xor_op a b w)
  · exact go (clear_op a b w)
  · by_cases hz : b < 0
    · exact go (shl_neg a b w hz)
    · exact go (shl_op a b w (by omega) hb)
  · by_cases hz : b < 0
    · exact go (shr_neg a b w hz)
    · exact go (shr_op a b w (by omega) hb)
  · by_cases hz : b < 0
    · exact go (ushr_neg a b w hz)
    · exact go (ushr_op a b w (by omega) hb)
  · exact go (rotl_any a b w)
  · exact go (eq_op a b w)
  · exact go (ne_op a b w)
  · exact go (lt_op a b w)
  · exact go (le_op a b w)
  · exact go (ult_op a b w)
  · exact go (min_op a b w)
  · exact go (max_op a b w)
  · exact go (high_op a b la ha lb hb w)
end Go.Proofs.YtofeohhnfnnifaaDoor.word
/- The contracts of the document's own two, held and Apply: what package word's Apply makes. -/
namespace Go.Proofs.YtofeohhnfnnifaaDoor.word
open Go.ChangeShapes Go.WideShapes Go.ChangeAt Go.RowKit
open wrapped
set_option linter.unusedVariables false
abbrev two_ (n a b : Int) (w : World) (x y : Int) : Prop := Calls Tryd.prog 58 #[.int .i64 n, .int .i64 a, .int .i64 b] w fun e w' => e = .returned (.tuple #[.int .i64 x, .int .i64 y]) ∧ w' = w
theorem reftwo16 (a b : Int) (w : World) : two_ 16 a b w (wrap64 (a + b)) 0 := by
  go_enter Tryd.func58, Tryd.ntmps58
  go_wp2
  go_ret2
  exact ⟨rfl, rfl⟩
theorem reftwo17 (a b : Int) (w : World) : two_ 17 a b w (wrap64 (a + wrap64 (-b))) 0 := by
  rw [wrap64_addr]
  go_enter Tryd.func58, Tryd.ntmps58
  go_wp2
  go_ret2
  exact ⟨ret_two (by rw [Int.sub_eq_add_neg]) rfl, rfl⟩
theorem reftwo18 (a b : Int) (la : -9223372036854775808 ≤ a) (ha : a ≤ 9223372036854775807) (lb : -9223372036854775808 ≤ b) (hb : b ≤ 9223372036854775807) (w : World) : two_ 18 a b w (wrap64 (a * b)) 0 := by
  have c := refwide_any a b la ha lb hb
  have e : Hid (wrap64 (a * b % 18446744073709551616) = wrap64 (a * b)) := by
    show wrap64 (a * b % 18446744073709551616) = wrap64 (a * b)
    generalize a * b = p
    exact wrap64_of _ _ (-(p / 18446744073709551616)) (by omega)
  obtain ⟨H, hH⟩ : ∃ H, Hid (a * b / 18446744073709551616 = H) := ⟨_, rfl⟩
  obtain ⟨L, hL⟩ : ∃ L, Hid (a * b % 18446744073709551616 = L) := ⟨_, rfl⟩
  have hL0 : 0 ≤ L ∧ L < 18446744073709551616 := by rw [← hL.out]; omega
  rw [hH.out, hL.out] at c
  rw [← e.out, hL.out]
  clear e hL hH
  go_enter Tryd.func58, Tryd.ntmps58
  go_wp2_with (go_at_call 79; with_reducible refine (c _).mono ?_; rintro e w' ⟨rfl, hw⟩; replace hw := hw.symm; subst hw)
  go_ret2
  exact ⟨ret_two (by first | rfl | (rw [IntKind.wrap_i64]; rfl)) rfl, rfl⟩
theorem tdiv_neg_one (a : Int) : a.tdiv (-1) = -a := by rw [Int.tdiv_neg, Int.tdiv_one]
theorem reftwo19z (a b : Int) (w : World) (h : b = 0) : two_ 19 a b w 0 20 := by
  subst h
  go_enter Tryd.func58, Tryd.ntmps58
  go_wp2
  go_ret2
  exact ⟨rfl, rfl⟩
theorem reftwo20z (a b : Int) (w : World) (h : b = 0) : two_ 20 a b w 0 20 := by
  subst h
  go_enter Tryd.func58, Tryd.ntmps58
  go_wp2
  go_ret2
  exact ⟨rfl, rfl⟩
theorem reftwo19 (a b : Int) (la : -9223372036854775808 ≤ a) (ha : a ≤ 9223372036854775807) (lb : -9223372036854775808 ≤ b) (hb : b ≤ 9223372036854775807) (w : World) (h : (b == 0) = false) (h2 : ¬ b = 0) : two_ 19 a b w (wrap64 (a.tdiv b)) 0 := by
  by_cases h1 : b = -1
  · subst h1
    rw [tdiv_neg_one]
    go_enter Tryd.func58, Tryd.ntmps58
    go_wp2
    go_ret2
    exact ⟨rfl, rfl⟩
  · have h3 : (b == -1) = false := by simpa using h1
    go_enter Tryd.func58, Tryd.ntmps58
    go_wp2
    go_ret2
    exact ⟨rfl, rfl⟩
theorem tmod_word (a b : Int) (la : -9223372036854775808 ≤ a) (ha : a ≤ 9223372036854775807) (lb : -9223372036854775808 ≤ b) (hb : b ≤ 9223372036854775807) (h : ¬ b = 0) : wrap64 (a - wrap64 (wrap64 (a.tdiv b) * b)) = a.tmod b := by
  have e : wrap64 (a - wrap64 (wrap64 (a.tdiv b) * b)) = wrap64 (a - a.tdiv b * b) := by
    rw [wrap64_mull, Int.sub_eq_add_neg, Int.sub_eq_add_neg]
    generalize a.tdiv b * b = p
    have : wrap64 (a + -wrap64 p) = wrap64 (a + -p) := by
      obtain ⟨k, hk⟩ := wrap64_ex p
      exact wrap64_of _ _ (-k) (by rw [hk]; omega)
    exact this
  have e2 : a - a.tdiv b * b = a.tmod b := by rw [Int.tmod_def, Int.mul_comm]
  rw [e, e2]
  have key : ∀ c : Int, 0 < c → -c < a.tmod c ∧ a.tmod c < c := fun c hc => ⟨by have := Int.tmod_lt_of_pos (-a) hc; rw [Int.neg_tmod] at this; omega, Int.tmod_lt_of_pos a hc⟩
  rcases (by omega : 0 < b ∨ b < 0) with hp | hp
  · have := key b hp
    exact wrap64_id _ (by omega) (by omega)
  · have h3 := key (-b) (by omega)
    rw [Int.tmod_neg] at h3
    exact wrap64_id _ (by omega) (by omega)
theorem reftwo20 (a b : Int) (la : -9223372036854775808 ≤ a) (ha : a ≤ 9223372036854775807) (lb : -9223372036854775808 ≤ b) (hb : b ≤ 9223372036854775807) (w : World) (h : (b == 0) = false) (h2 : ¬ b = 0) : two_ 20 a b w (a.tmod b) 0 := by
  by_cases h1 : b = -1
  · subst h1
    rw [show a.tmod (-1) = 0 from by rw [Int.tmod_neg, Int.tmod_one]]
    go_enter Tryd.func58, Tryd.ntmps58
    go_wp2
    go_ret2
    exact ⟨rfl, rfl⟩
  · have h3 : (b == -1) = false := by simpa using h1
    rw [← tmod_word a b la ha lb hb h2]
    go_enter Tryd.func58, Tryd.ntmps58
    go_wp2
    go_ret2
    exact ⟨rfl, rfl⟩
theorem reftwo21 (a b : Int) (la : -9223372036854775808 ≤ a) (ha : a ≤ 9223372036854775807) (lb : -9223372036854775808 ≤ b) (hb : b ≤ 9223372036854775807) (w : World) : two_ 21 a b w (bits .and .i64 a b) 0 := by
  have c := refbits21 a b la ha lb hb
  generalize bits .and .i64 a b = X at *
  go_enter Tryd.func58, Tryd.ntmps58
  go_wp2_with (go_at_call 80; with_reducible refine (c _).mono ?_; rintro e w' ⟨rfl, hw⟩; replace hw := hw.symm; subst hw)
  go_ret2
  exact ⟨rfl, rfl⟩
theorem reftwo22 (a b : Int) (la : -9223372036854775808 ≤ a) (ha : a ≤ 9223372036854775807) (lb : -9223372036854775808 ≤ b) (hb : b ≤ 9223372036854775807) (w : World) : two_ 22 a b w (bits .or .i64 a b) 0 := by
  have c := refbits22 a b la ha lb hb
  generalize bits .or .i64 a b = X at *
  go_enter Tryd.func58, Tryd.ntmps58
  go_wp2_with (go_at_call 80; with_reducible refine (c _).mono ?_; rintro e w' ⟨rfl, hw⟩; replace hw := hw.symm; subst hw)
  go_ret2
  exact ⟨rfl, rfl⟩
theorem reftwo23 (a b : Int) (la : -9223372036854775808 ≤ a) (ha : a ≤ 9223372036854775807) (lb : -9223372036854775808 ≤ b) (hb : b ≤ 9223372036854775807) (w : World) : two_ 23 a b w (bits .xor .i64 a b) 0 := by
  have c := refbits23 a b la ha lb hb
  generalize bits .xor .i64 a b = X at *
  go_enter Tryd.func58, Tryd.ntmps58
  go_wp2_with (go_at_call 80; with_reducible refine (c _).mono ?_; rintro e w' ⟨rfl, hw⟩; replace hw := hw.symm; subst hw)
  go_ret2
  exact ⟨rfl, rfl⟩
theorem reftwo24 (a b : Int) (la : -9223372036854775808 ≤ a) (ha : a ≤ 9223372036854775807) (lb : -9223372036854775808 ≤ b) (hb : b ≤ 9223372036854775807) (w : World) : two_ 24 a b w (bits .and .i64 a (bits .xor .i64 (-1) b)) 0 := by
  have c := refbits24 a b la ha lb hb
  generalize bits .and .i64 a (bits .xor .i64 (-1) b) = X at *
  go_enter Tryd.func58, Tryd.ntmps58
  go_wp2_with (go_at_call 80; with_reducible refine (c _).mono ?_; rintro e w' ⟨rfl, hw⟩; replace hw := hw.symm; subst hw)
  go_ret2
  exact ⟨rfl, rfl⟩
theorem reftwo25n (a b : Int) (w : World) (h : b < 0) : two_ 25 a b w 0 21 := by
  go_enter Tryd.func58, Tryd.ntmps58
  go_wp2
  go_ret2
  exact ⟨rfl, rfl⟩
theorem reftwo26n (a b : Int) (w : World) (h : b < 0) : two_ 26 a b w 0 21 := by
  go_enter Tryd.func58, Tryd.ntmps58
  go_wp2
  go_ret2
  exact ⟨rfl, rfl⟩
theorem reftwo27n (a b : Int) (w : World) (h : b < 0) : two_ 27 a b w 0 21 := by
  go_enter Tryd.func58, Tryd.ntmps58
  go_wp2
  go_ret2
  exact ⟨rfl, rfl⟩
theorem reftwo25 (a b : Int) (la : -9223372036854775808 ≤ a) (ha : a ≤ 9223372036854775807) (lb : -9223372036854775808 ≤ b) (hb : b ≤ 9223372036854775807) (w : World) (h : 0 ≤ b) : two_ 25 a b w (wrap64 (a * 2 ^ min b.toNat 64)) 0 := by
  have c := refshifted_any a (((min b.toNat 64 : Nat) : Int)) 0 (wrap64 (a * 2 ^ min b.toNat 64)) (by omega) (by omega) (by decide) (by decide) (shl_word a _ (Nat.min_le_right _ _))
  have cf := reffew_any b h _ rfl
  obtain ⟨X, hX⟩ : ∃ X, Hid (wrap64 (a * 2 ^ min b.toNat 64) = X) := ⟨_, rfl⟩
  rw [hX.out] at c ⊢
  have hS : 0 ≤ ((min b.toNat 64 : Nat) : Int) ∧ ((min b.toNat 64 : Nat) : Int) ≤ 64 := by omega
  generalize ((min b.toNat 64 : Nat) : Int) = S at *
  clear hX
  go_enter Tryd.func58, Tryd.ntmps58
  go_wp2_with (first | (go_at_call 82; with_reducible refine (cf _).mono ?_; rintro e w' ⟨rfl, hw⟩; replace hw := hw.symm; subst hw) | (go_at_call 81; with_reducible refine (c _).mono ?_; rintro e w' ⟨rfl, hw⟩; replace hw := hw.symm; subst hw))
  go_ret2
  exact ⟨rfl, rfl⟩
theorem reftwo26 (a b : Int) (la : -9223372036854775808 ≤ a) (ha : a ≤ 9223372036854775807) (lb : -9223372036854775808 ≤ b) (hb : b ≤ 9223372036854775807) (w : World) (h : 0 ≤ b) : two_ 26 a b w (a / 2 ^ min b.toNat 64) 0 := by
  have c := refshifted_any a (-((min b.toNat 64 : Nat) : Int)) (bitOf a 63) (a / 2 ^ min b.toNat 64) (by omega) (by omega) (bitOf_01 a 63).1 (bitOf_01 a 63).2 (shr_word a la ha _ (Nat.min_le_right _ _))
  have cf := reffew_any b h _ rfl
  have hb63 : ∀ w, Calls Tryd.prog 75 #[.int .i64 a, .int .i64 63] w fun e w' => e = .returned (.int .i64 (bitOf a 63)) ∧ w' = w := refbit_any a 63 (by decide)
  obtain ⟨X, hX⟩ : ∃ X, Hid (a / 2 ^ min b.toNat 64 = X) := ⟨_, rfl⟩
  rw [hX.out] at c ⊢
  have hS : 0 ≤ ((min b.toNat 64 : Nat) : Int) ∧ ((min b.toNat 64 : Nat) : Int) ≤ 64 := by omega
  generalize ((min b.toNat 64 : Nat) : Int) = S at *
  generalize bitOf a 63 = T at *
  clear hX
  go_enter Tryd.func58, Tryd.ntmps58
  go_wp2_with (first | (go_at_call 82; with_reducible refine (cf _).mono ?_; rintro e w' ⟨rfl, hw⟩; replace hw := hw.symm; subst hw) | (go_at_call 81; with_reducible refine (c _).mono ?_; rintro e w' ⟨rfl, hw⟩; replace hw := hw.symm; subst hw) | (go_at_call 75; with_reducible refine (hb63 _).mono ?_; rintro e w' ⟨rfl, hw⟩; replace hw := hw.symm; subst hw))
  go_ret2
  exact ⟨rfl, rfl⟩
theorem reftwo27 (a b : Int) (la : -9223372036854775808 ≤ a) (ha : a ≤ 9223372036854775807) (lb : -9223372036854775808 ≤ b) (hb : b ≤ 9223372036854775807) (w : World) (h : 0 ≤ b) : two_ 27 a b w (wrap64 (IntKind.u64.wrap a / 2 ^ min b.toNat 64)) 0 := by
  have c := refshifted_any a (-((min b.toNat 64 : Nat) : Int)) 0 (wrap64 (IntKind.u64.wrap a / 2 ^ min b.toNat 64)) (by omega) (by omega) (by decide) (by decide) (ushr_word a _ (Nat.min_le_right _ _))
  have cf := reffew_any b h _ rfl
  obtain ⟨X, hX⟩ : ∃ X, Hid (wrap64 (IntKind.u64.wrap a / 2 ^ min b.toNat 64) = X) := ⟨_, rfl⟩
  rw [hX.out] at c ⊢
  have hS : 0 ≤ ((min b.toNat 64 : Nat) : Int) ∧ ((min b.toNat 64 : Nat) : Int) ≤ 64 := by omega
  generalize ((min b.toNat 64 : Nat) : Int) = S at *
  clear hX
  go_enter Tryd.func58, Tryd.ntmps58
  go_wp2_with (first | (go_at_call 82; with_reducible refine (cf _).mono ?_; rintro e w' ⟨rfl, hw⟩; replace hw := hw.symm; subst hw) | (go_at_call 81; with_reducible refine (c _).mono ?_; rintro e w' ⟨rfl, hw⟩; replace hw := hw.symm; subst hw))
  go_ret2
  exact ⟨rfl, rfl⟩
/-- The bits of a, turned. -/
def vr (a : Int) (s k : Nat) : Int := bitOf a (if s ≤ k then k - s else k + 64 - s)
theorem rot_word (a : Int) (la : -9223372036854775808 ≤ a) (ha : a ≤ 9223372036854775807) (s : Nat) (hs : s < 64) : wrap64 (pb (vr a s) 64) = wrap64 (rotN (a % 18446744073709551616) s) := by
  refine pb_word _ (fun k => bitOf_01 a _) _ (by unfold wrap64; omega) (by unfold wrap64; omega) fun k hk => ?_
  rw [bitOf_wrap _ k hk, bitOf_rot _ s k (by omega) (by omega) hs hk]
  exact bitOf_mod a 64 _ (by split <;> omega)
theorem turn_at (b : Int) (k s : Nat) (hs : s = (b % 64).toNat) (hk : k < 64) : (((k : Int) - b.tmod 64).tmod 64 + 64).tmod 64 = (((if s ≤ k then k - s else k + 64 - s : Nat)) : Int) := by
  have h1 : b.tmod 64 = b % 64 ∨ b.tmod 64 = b % 64 - 64 := by
    rcases Int.le_total 0 b with h | h
    · left; rw [Int.tmod_eq_emod_of_nonneg h]
    · by_cases h0 : b % 64 = 0
      · left
        have : (64 : Int) ∣ b := Int.dvd_of_emod_eq_zero h0
        rw [Int.tmod_eq_zero_of_dvd this, h0]
      · right
        have e : b.tmod 64 = -((-b).tmod 64) := by rw [Int.neg_tmod]; omega
        rw [e, Int.tmod_eq_emod_of_nonneg (by omega)]
        omega
  have h2 : ∀ x : Int, -128 < x → x < 128 → x.tmod 64 = x % 64 ∨ x.tmod 64 = x % 64 - 64 := fun x _ _ => by
    rcases Int.le_total 0 x with h | h
    · left; rw [Int.tmod_eq_emod_of_nonneg h]
    · by_cases h0 : x % 64 = 0
      · left
        have : (64 : Int) ∣ x := Int.dvd_of_emod_eq_zero h0
        rw [Int.tmod_eq_zero_of_dvd this, h0]
      · right
        have e : x.tmod 64 = -((-x).tmod 64) := by rw [Int.neg_tmod]; omega
        rw [e, Int.tmod_eq_emod_of_nonneg (by omega)]
        omega
  have h3 := h2 ((k : Int) - b.tmod 64) (by omega) (by omega)
  generalize hy : ((k : Int) - b.tmod 64).tmod 64 = y at *
  rw [Int.tmod_eq_emod_of_nonneg (by omega : 0 ≤ y + 64)]
  split <;> omega
set_option maxHeartbeats 1000000 in
theorem reftwo28 (a b : Int) (la : -9223372036854775808 ≤ a) (ha : a ≤ 9223372036854775807) (lb : -9223372036854775808 ≤ b) (hb : b ≤ 9223372036854775807) (w : World) : two_ 28 a b w (wrap64 (rotN (a % 18446744073709551616) (b % 64).toNat)) 0 := by
  have hfin : Hid (wrap64 (pb (vr a (b % 64).toNat) 64) = wrap64 (rotN (a % 18446744073709551616) (b % 64).toNat)) := rot_word a la ha _ (by omega)
  generalize wrap64 (rotN (a % 18446744073709551616) (b % 64).toNat) = X at *
  have hat := fun k hk => turn_at b k (b % 64).toNat rfl hk
  have hs : (b % 64).toNat < 64 := by omega
  generalize (b % 64).toNat = s at *
  have hv : ∀ k, 0 ≤ vr a s k ∧ vr a s k ≤ 1 := fun k => bitOf_01 a _
  go_enter Tryd.func58, Tryd.ntmps58
  go_wp2
  go_loop [10, 11] (fun r i => ∃ (k : Nat) (x : Int), k ≤ 64 ∧ i = .int .i64 k ∧ r = .int .i64 x ∧ Hid (x = wrap64 (pb (vr a s) k))) (fun _ i => 64 - (intOf i).toNat)
  case atStart => exact ⟨0, 0, Nat.zero_le _, rfl, rfl, by show (0 : Int) = wrap64 0; simp [wrap64]⟩
  case round =>
    obtain ⟨k, x, hk, rfl, rfl, hx⟩ := hrel
    by_cases hlt : k < 64
    · have hbd := pb_bd _ hv k
      have hput := refput_as x (vr a s k) (pb (vr a s) k) k hlt hbd.1 hbd.2 (hv k).1 (hv k).2 hx.out
      have hnx : Hid (wrap64 (pb (vr a s) k + vr a s k * 2 ^ k) = wrap64 (pb (vr a s) (k + 1))) := rfl
      have hj := hat k hlt
      have ht1 : -64 < b.tmod 64 ∧ b.tmod 64 < 64 := ⟨by have := Int.tmod_lt_of_pos (-b) (b := 64) (by decide); rw [Int.neg_tmod] at this; omega, Int.tmod_lt_of_pos b (by decide)⟩
      have hbit : ∀ w, Calls Tryd.prog 75 #[.int .i64 a, .int .i64 ((wrap64 ((wrap64 ((k : Int) - b.tmod 64)).tmod 64 + 64)).tmod 64)] w fun e w' => e = .returned (.int .i64 (vr a s k)) ∧ w' = w := by
        rw [wrap64_id ((k : Int) - b.tmod 64) (by omega) (by omega)]
        have hy : -64 < ((k : Int) - b.tmod 64).tmod 64 ∧ ((k : Int) - b.tmod 64).tmod 64 < 64 := ⟨by have := Int.tmod_lt_of_pos (-((k : Int) - b.tmod 64)) (b := 64) (by decide); rw [Int.neg_tmod] at this; omega, Int.tmod_lt_of_pos _ (by decide)⟩
        rw [wrap64_id (((k : Int) - b.tmod 64).tmod 64 + 64) (by omega) (by omega), hj]
        exact refbit_any a _ (by split <;> omega)
      generalize vr a s k = V at *
      generalize wrap64 (pb (vr a s) k + V * 2 ^ k) = z at *
      clear hbd hx hj hat hv hfin ht1
      go_wp2_with (first | (go_at_call 75; with_reducible refine (hbit _).mono ?_; rintro e w' ⟨rfl, hw⟩; replace hw := hw.symm; subst hw) | (go_at_call 76; with_reducible refine (hput _).mono ?_; rintro e w' ⟨rfl, hw⟩; replace hw := hw.symm; subst hw))
      go_round
      case rel => exact ⟨k + 1, z, by omega, by go_num, rfl, hnx⟩
      case measure => simp [intOf]; omega
    · go_wp2
      go_ret2
      have : k = 64 := by omega
      subst this
      exact ⟨ret_two (hx.out.trans hfin.out) rfl, rfl⟩
end Go.Proofs.YtofeohhnfnnifaaDoor.word
