/- What goes over: the contracts of package word's Over and of the document's own, which tell the same whatever they are asked. -/
import Derived.Test.YtecimplpfghikabRefApply
namespace Go.Proofs.Ytecimplpfghikab.word
open Go.ChangeShapes Go.WideShapes Go.ChangeAt Go.RowKit
open wrapped
set_option linter.unusedVariables false
abbrev fn_ (n a b x : Int) (w : World) (r : Bool) : Prop := Calls Try.prog 8 #[.int .i64 n, .int .i64 a, .int .i64 b, .int .i64 x] w fun e w' => e = .returned (.bool r) ∧ w' = w
abbrev pov_ (n a b : Int) (w : World) (r : Bool) (y : Int) : Prop := Calls Try.prog 4 #[.int .i64 n, .int .i64 a, .int .i64 b] w fun e w' => e = .returned (.tuple #[.bool r, .int .i64 y]) ∧ w' = w
abbrev rov_ (n a b : Int) (w : World) (r : Bool) (y : Int) : Prop := Calls Try.prog 5 #[.int .i64 n, .int .i64 a, .int .i64 b] w fun e w' => e = .returned (.tuple #[.bool r, .int .i64 y]) ∧ w' = w
theorem ret_bool {a b : Bool} (h : a = b) : Ending.returned (.bool a) = .returned (.bool b) := by rw [h]
theorem ret_bi {a b : Bool} {y : Int} (h : a = b) : Ending.returned (.tuple #[.bool a, .int .i64 y]) = .returned (.tuple #[.bool b, .int .i64 y]) := by rw [h]
theorem pov_of (n a b x : Int) (r : Bool) (c1 : ∀ w, papply_ n a b w x 0) (c2 : ∀ w, fn_ n a b x w r) (w : World) : pov_ n a b w r 0 := by
  go_enter Try.func4, Try.ntmps4
  go_wp2_with (first | (go_at_call 7; with_reducible refine (c1 _).mono ?_; rintro e w' ⟨rfl, hw⟩; replace hw := hw.symm; subst hw) | (go_at_call 8; with_reducible refine (c2 _).mono ?_; rintro e w' ⟨rfl, hw⟩; replace hw := hw.symm; subst hw))
  go_ret2
  exact ⟨rfl, rfl⟩
theorem pov_err (n a b x y : Int) (hy : ¬ y = 0) (c1 : ∀ w, papply_ n a b w x y) (w : World) : pov_ n a b w false y := by
  have h1 : (y != 0) = true := by simpa using hy
  go_enter Try.func4, Try.ntmps4
  go_wp2_with (go_at_call 7; with_reducible refine (c1 _).mono ?_; rintro e w' ⟨rfl, hw⟩; replace hw := hw.symm; subst hw)
  go_ret2
  exact ⟨rfl, rfl⟩
theorem rov_err (n a b x y : Int) (hy : ¬ y = 0) (c1 : ∀ w, apply_ n a b w x y) (w : World) : rov_ n a b w false y := by
  have h1 : (y != 0) = true := by simpa using hy
  go_enter Try.func5, Try.ntmps5
  go_wp2_with (go_at_call 9; with_reducible refine (c1 _).mono ?_; rintro e w' ⟨rfl, hw⟩; replace hw := hw.symm; subst hw)
  go_ret2
  exact ⟨rfl, rfl⟩
theorem fn_none (n a b x : Int) (h : n ≠ 1 ∧ n ≠ 3 ∧ n ≠ 16 ∧ n ≠ 17 ∧ n ≠ 18 ∧ n ≠ 19 ∧ n ≠ 25) (w : World) : fn_ n a b x w false := by
  obtain ⟨h1, h3, h16, h17, h18, h19, h25⟩ := h
  go_enter Try.func8, Try.ntmps8
  go_wp2
  go_ret
  exact ⟨rfl, rfl⟩
theorem rov_none (n a b x : Int) (h : n ≠ 1 ∧ n ≠ 3 ∧ n ≠ 16 ∧ n ≠ 17 ∧ n ≠ 18 ∧ n ≠ 19 ∧ n ≠ 25) (c1 : ∀ w, apply_ n a b w x 0) (w : World) : rov_ n a b w false 0 := by
  obtain ⟨h1, h3, h16, h17, h18, h19, h25⟩ := h
  go_enter Try.func5, Try.ntmps5
  go_wp2_with (go_at_call 9; with_reducible refine (c1 _).mono ?_; rintro e w' ⟨rfl, hw⟩; replace hw := hw.symm; subst hw)
  go_ret2
  exact ⟨rfl, rfl⟩
theorem min_neg (a : Int) (la : -9223372036854775808 ≤ a) (ha : a ≤ 9223372036854775807) : (a = wrap64 (-a) ∧ a ≠ 0) ↔ a = -9223372036854775808 := by unfold wrap64; omega
theorem fn1 (a b x : Int) (w : World) : fn_ 1 a b x w (a == -9223372036854775808) := by
  go_enter Try.func8, Try.ntmps8
  go_wp2
  go_ret
  exact ⟨rfl, rfl⟩
theorem rov1 (a b x : Int) (la : -9223372036854775808 ≤ a) (ha : a ≤ 9223372036854775807) (c1 : ∀ w, apply_ 1 a b w x 0) (w : World) : rov_ 1 a b w (a == -9223372036854775808) 0 := by
  have hm := min_neg a la ha
  by_cases h0 : a = 0
  · subst h0
    rw [show ((0 : Int) == -9223372036854775808) = false from by decide]
    have ez : wrap64 0 = 0 := by unfold wrap64; omega
    clear hm la ha
    go_enter Try.func5, Try.ntmps5
    go_wp2_with (go_at_call 9; with_reducible refine (c1 _).mono ?_; rintro e w' ⟨rfl, hw⟩; replace hw := hw.symm; subst hw)
    go_ret2
    exact ⟨rfl, rfl⟩
  · by_cases hmin : a = -9223372036854775808
    · subst hmin
      rw [show ((-9223372036854775808 : Int) == -9223372036854775808) = true from by decide]
      have ez : wrap64 9223372036854775808 = -9223372036854775808 := by unfold wrap64; omega
      clear hm la ha h0
      go_enter Try.func5, Try.ntmps5
      go_wp2_with (go_at_call 9; with_reducible refine (c1 _).mono ?_; rintro e w' ⟨rfl, hw⟩; replace hw := hw.symm; subst hw)
      go_ret2
      exact ⟨rfl, rfl⟩
    · have e1 : (a == wrap64 (-a)) = false := beq_eq_false_iff_ne.2 (fun g => hmin (hm.1 ⟨g, h0⟩))
      rw [show (a == -9223372036854775808) = false from beq_eq_false_iff_ne.2 hmin]
      clear hm h0 hmin
      go_enter Try.func5, Try.ntmps5
      go_wp2_with (go_at_call 9; with_reducible refine (c1 _).mono ?_; rintro e w' ⟨rfl, hw⟩; replace hw := hw.symm; subst hw)
      go_ret2
      exact ⟨rfl, rfl⟩
theorem fn3 (a b x : Int) (w : World) : fn_ 3 a b x w (a == -9223372036854775808) := by
  go_enter Try.func8, Try.ntmps8
  go_wp2
  go_ret
  exact ⟨rfl, rfl⟩
theorem rov3 (a b x : Int) (la : -9223372036854775808 ≤ a) (ha : a ≤ 9223372036854775807) (c1 : ∀ w, apply_ 3 a b w x 0) (w : World) : rov_ 3 a b w (a == -9223372036854775808) 0 := by
  have hm := min_neg a la ha
  by_cases h0 : a = 0
  · subst h0
    rw [show ((0 : Int) == -9223372036854775808) = false from by decide]
    have ez : wrap64 0 = 0 := by unfold wrap64; omega
    clear hm la ha
    go_enter Try.func5, Try.ntmps5
    go_wp2_with (go_at_call 9; with_reducible refine (c1 _).mono ?_; rintro e w' ⟨rfl, hw⟩; replace hw := hw.symm; subst hw)
    go_ret2
    exact ⟨rfl, rfl⟩
  · by_cases hmin : a = -9223372036854775808
    · subst hmin
      rw [show ((-9223372036854775808 : Int) == -9223372036854775808) = true from by decide]
      have ez : wrap64 9223372036854775808 = -9223372036854775808 := by unfold wrap64; omega
      clear hm la ha h0
      go_enter Try.func5, Try.ntmps5
      go_wp2_with (go_at_call 9; with_reducible refine (c1 _).mono ?_; rintro e w' ⟨rfl, hw⟩; replace hw := hw.symm; subst hw)
      go_ret2
      exact ⟨rfl, rfl⟩
    · have e1 : (a == wrap64 (-a)) = false := beq_eq_false_iff_ne.2 (fun g => hmin (hm.1 ⟨g, h0⟩))
      rw [show (a == -9223372036854775808) = false from beq_eq_false_iff_ne.2 hmin]
      clear hm h0 hmin
      go_enter Try.func5, Try.ntmps5
      go_wp2_with (go_at_call 9; with_reducible refine (c1 _).mono ?_; rintro e w' ⟨rfl, hw⟩; replace hw := hw.symm; subst hw)
      go_ret2
      exact ⟨rfl, rfl⟩
theorem fn19m (a b x : Int) (h : b = -1) (w : World) : fn_ 19 a b x w (a == -9223372036854775808) := by
  subst h
  go_enter Try.func8, Try.ntmps8
  go_wp2
  go_ret
  exact ⟨rfl, rfl⟩
theorem fn19 (a b x : Int) (h : ¬ b = -1) (w : World) : fn_ 19 a b x w false := by
  have h1 : (b != -1) = true := by simpa using h
  go_enter Try.func8, Try.ntmps8
  go_wp2
  go_ret
  exact ⟨rfl, rfl⟩
theorem rov19m (a b x : Int) (la : -9223372036854775808 ≤ a) (ha : a ≤ 9223372036854775807) (hb : b = -1) (c1 : ∀ w, apply_ 19 a b w x 0) (w : World) : rov_ 19 a b w (a == -9223372036854775808) 0 := by
  subst hb
  have hm := min_neg a la ha
  by_cases h0 : a = 0
  · subst h0
    rw [show ((0 : Int) == -9223372036854775808) = false from by decide]
    have ez : wrap64 0 = 0 := by unfold wrap64; omega
    clear hm la ha
    go_enter Try.func5, Try.ntmps5
    go_wp2_with (go_at_call 9; with_reducible refine (c1 _).mono ?_; rintro e w' ⟨rfl, hw⟩; replace hw := hw.symm; subst hw)
    go_ret2
    exact ⟨rfl, rfl⟩
  · by_cases hmin : a = -9223372036854775808
    · subst hmin
      rw [show ((-9223372036854775808 : Int) == -9223372036854775808) = true from by decide]
      have ez : wrap64 9223372036854775808 = -9223372036854775808 := by unfold wrap64; omega
      clear hm la ha h0
      go_enter Try.func5, Try.ntmps5
      go_wp2_with (go_at_call 9; with_reducible refine (c1 _).mono ?_; rintro e w' ⟨rfl, hw⟩; replace hw := hw.symm; subst hw)
      go_ret2
      exact ⟨rfl, rfl⟩
    · have e1 : (a == wrap64 (-a)) = false := beq_eq_false_iff_ne.2 (fun g => hmin (hm.1 ⟨g, h0⟩))
      rw [show (a == -9223372036854775808) = false from beq_eq_false_iff_ne.2 hmin]
      clear hm h0 hmin
      go_enter Try.func5, Try.ntmps5
      go_wp2_with (go_at_call 9; with_reducible refine (c1 _).mono ?_; rintro e w' ⟨rfl, hw⟩; replace hw := hw.symm; subst hw)
      go_ret2
      exact ⟨rfl, rfl⟩
theorem rov19 (a b x : Int) (la : -9223372036854775808 ≤ a) (ha : a ≤ 9223372036854775807) (hb : ¬ b = -1) (c1 : ∀ w, apply_ 19 a b w x 0) (w : World) : rov_ 19 a b w false 0 := by
  have hb1 : (b == -1) = false := by simpa using hb
  have hm := min_neg a la ha
  by_cases h0 : a = 0
  · subst h0
    rw [show false = false from rfl]
    have ez : wrap64 0 = 0 := by unfold wrap64; omega
    clear hm la ha
    go_enter Try.func5, Try.ntmps5
    go_wp2_with (go_at_call 9; with_reducible refine (c1 _).mono ?_; rintro e w' ⟨rfl, hw⟩; replace hw := hw.symm; subst hw)
    go_ret2
    exact ⟨rfl, rfl⟩
  · by_cases hmin : a = -9223372036854775808
    · subst hmin
      rw [show false = false from rfl]
      have ez : wrap64 9223372036854775808 = -9223372036854775808 := by unfold wrap64; omega
      clear hm la ha h0
      go_enter Try.func5, Try.ntmps5
      go_wp2_with (go_at_call 9; with_reducible refine (c1 _).mono ?_; rintro e w' ⟨rfl, hw⟩; replace hw := hw.symm; subst hw)
      go_ret2
      exact ⟨rfl, rfl⟩
    · have e1 : (a == wrap64 (-a)) = false := beq_eq_false_iff_ne.2 (fun g => hmin (hm.1 ⟨g, h0⟩))
      rw [show false = false from rfl]
      clear hm h0 hmin
      go_enter Try.func5, Try.ntmps5
      go_wp2_with (go_at_call 9; with_reducible refine (c1 _).mono ?_; rintro e w' ⟨rfl, hw⟩; replace hw := hw.symm; subst hw)
      go_ret2
      exact ⟨rfl, rfl⟩
theorem over_gen (p q r s : Int) (lp : -9223372036854775808 ≤ p) (hp : p ≤ 9223372036854775807) (lq : -9223372036854775808 ≤ q) (hq : q ≤ 9223372036854775807) (lr : -9223372036854775808 ≤ r) (hr : r ≤ 9223372036854775807) (ls : -9223372036854775808 ≤ s) (hs : s ≤ 9223372036854775807) :
    decide (bits .and .i64 (bits .xor .i64 p q) (bits .xor .i64 r s) < 0) = decide (¬ ((p < 0) ↔ (q < 0)) ∧ ¬ ((r < 0) ↔ (s < 0))) := by
  rw [bits_and_eq, bits_xor_eq, bits_xor_eq, toInt_neg, BitVec.msb_and, BitVec.ofInt_toInt, BitVec.ofInt_toInt, BitVec.msb_xor, BitVec.msb_xor, msb_ofInt p lp hp, msb_ofInt q lq hq, msb_ofInt r lr hr, msb_ofInt s ls hs]
  by_cases h1 : p < 0 <;> by_cases h2 : q < 0 <;> by_cases h3 : r < 0 <;> by_cases h4 : s < 0 <;> simp [h1, h2, h3, h4]
theorem ne_iff (P Q : Prop) [Decidable P] [Decidable Q] : (decide P != decide Q) = decide (¬ (P ↔ Q)) := by
  by_cases h1 : P <;> by_cases h2 : Q <;> simp [h1, h2]
theorem fn16 (a b S : Int) (la : -9223372036854775808 ≤ a) (ha : a ≤ 9223372036854775807) (lb : -9223372036854775808 ≤ b) (hb : b ≤ 9223372036854775807) (ls : -9223372036854775808 ≤ S) (hs : S ≤ 9223372036854775807) (w : World) : fn_ 16 a b S w (decide (¬ ((a < 0) ↔ (S < 0)) ∧ ¬ ((b < 0) ↔ (S < 0)))) := by
  have e := over_gen a S b S la ha ls hs lb hb ls hs
  have eH : Hid (decide (bits .and .i64 (bits .xor .i64 a S) (bits .xor .i64 b S) < 0) = decide (¬ ((a < 0) ↔ (S < 0)) ∧ ¬ ((b < 0) ↔ (S < 0)))) := e
  generalize decide (¬ ((a < 0) ↔ (S < 0)) ∧ ¬ ((b < 0) ↔ (S < 0))) = r at *
  clear e
  go_enter Try.func8, Try.ntmps8
  go_wp2
  go_ret
  exact ⟨ret_bool eH.out, rfl⟩
theorem rov16 (a b S : Int) (la : -9223372036854775808 ≤ a) (ha : a ≤ 9223372036854775807) (lb : -9223372036854775808 ≤ b) (hb : b ≤ 9223372036854775807) (hS : S = wrap64 (a + b)) (c1 : ∀ w, apply_ 16 a b w S 0) (w : World) : rov_ 16 a b w (decide (¬ ((a < 0) ↔ (S < 0)) ∧ ¬ ((b < 0) ↔ (S < 0)))) 0 := by
  have e : Hid ((decide (0 ≤ b) != decide (a ≤ S)) = decide (¬ ((a < 0) ↔ (S < 0)) ∧ ¬ ((b < 0) ↔ (S < 0)))) := by
    show (decide (0 ≤ b) != decide (a ≤ S)) = decide (¬ ((a < 0) ↔ (S < 0)) ∧ ¬ ((b < 0) ↔ (S < 0)))
    rw [ne_iff]
    refine decide_eq_decide.2 ?_
    have h3 : S = wrap64 (a + b) := hS
    unfold wrap64 at h3
    omega
  generalize decide (¬ ((a < 0) ↔ (S < 0)) ∧ ¬ ((b < 0) ↔ (S < 0))) = r at *
  clear hS
  go_enter Try.func5, Try.ntmps5
  go_wp2_with (go_at_call 9; with_reducible refine (c1 _).mono ?_; rintro e w' ⟨rfl, hw⟩; replace hw := hw.symm; subst hw)
  go_ret2
  exact ⟨ret_bi e.out, rfl⟩
theorem fn17 (a b S : Int) (la : -9223372036854775808 ≤ a) (ha : a ≤ 9223372036854775807) (lb : -9223372036854775808 ≤ b) (hb : b ≤ 9223372036854775807) (ls : -9223372036854775808 ≤ S) (hs : S ≤ 9223372036854775807) (w : World) : fn_ 17 a b S w (decide (¬ ((a < 0) ↔ (b < 0)) ∧ ¬ ((a < 0) ↔ (S < 0)))) := by
  have e := over_gen a b a S la ha lb hb la ha ls hs
  have eH : Hid (decide (bits .and .i64 (bits .xor .i64 a b) (bits .xor .i64 a S) < 0) = decide (¬ ((a < 0) ↔ (b < 0)) ∧ ¬ ((a < 0) ↔ (S < 0)))) := e
  generalize decide (¬ ((a < 0) ↔ (b < 0)) ∧ ¬ ((a < 0) ↔ (S < 0))) = r at *
  clear e
  go_enter Try.func8, Try.ntmps8
  go_wp2
  go_ret
  exact ⟨ret_bool eH.out, rfl⟩
theorem rov17 (a b S : Int) (la : -9223372036854775808 ≤ a) (ha : a ≤ 9223372036854775807) (lb : -9223372036854775808 ≤ b) (hb : b ≤ 9223372036854775807) (hS : S = wrap64 (a + wrap64 (-b))) (c1 : ∀ w, apply_ 17 a b w S 0) (w : World) : rov_ 17 a b w (decide (¬ ((a < 0) ↔ (b < 0)) ∧ ¬ ((a < 0) ↔ (S < 0)))) 0 := by
  have e : Hid ((decide (0 ≤ b) != decide (S ≤ a)) = decide (¬ ((a < 0) ↔ (b < 0)) ∧ ¬ ((a < 0) ↔ (S < 0)))) := by
    show (decide (0 ≤ b) != decide (S ≤ a)) = decide (¬ ((a < 0) ↔ (b < 0)) ∧ ¬ ((a < 0) ↔ (S < 0)))
    rw [ne_iff]
    refine decide_eq_decide.2 ?_
    have h3 : S = wrap64 (a - b) := by rw [hS, wrap64_addr, Int.sub_eq_add_neg]
    unfold wrap64 at h3
    omega
  generalize decide (¬ ((a < 0) ↔ (b < 0)) ∧ ¬ ((a < 0) ↔ (S < 0))) = r at *
  clear hS
  go_enter Try.func5, Try.ntmps5
  go_wp2_with (go_at_call 9; with_reducible refine (c1 _).mono ?_; rintro e w' ⟨rfl, hw⟩; replace hw := hw.symm; subst hw)
  go_ret2
  exact ⟨ret_bi e.out, rfl⟩
theorem fn18 (a b x : Int) (la : -9223372036854775808 ≤ a) (ha : a ≤ 9223372036854775807) (lb : -9223372036854775808 ≤ b) (hb : b ≤ 9223372036854775807) (w : World) : fn_ 18 a b x w (a * b / 18446744073709551616 != wrap64 (a * b % 18446744073709551616) / 9223372036854775808) := by
  have c := wide_any a b la ha lb hb
  generalize a * b / 18446744073709551616 = H at *
  have hL : 0 ≤ a * b % 18446744073709551616 ∧ a * b % 18446744073709551616 < 18446744073709551616 := by omega
  generalize a * b % 18446744073709551616 = L at *
  go_enter Try.func8, Try.ntmps8
  go_wp2_with (go_at_call 21; with_reducible refine (c _).mono ?_; rintro e w' ⟨rfl, hw⟩; replace hw := hw.symm; subst hw)
  go_ret
  exact ⟨rfl, rfl⟩
theorem rov18 (a b x : Int) (la : -9223372036854775808 ≤ a) (ha : a ≤ 9223372036854775807) (lb : -9223372036854775808 ≤ b) (hb : b ≤ 9223372036854775807) (c1 : ∀ w, apply_ 18 a b w x 0) (w : World) : rov_ 18 a b w (a * b / 18446744073709551616 != wrap64 (a * b % 18446744073709551616) / 9223372036854775808) 0 := by
  have c := refwide_any a b la ha lb hb
  generalize a * b / 18446744073709551616 = H at *
  have hL : 0 ≤ a * b % 18446744073709551616 ∧ a * b % 18446744073709551616 < 18446744073709551616 := by omega
  generalize a * b % 18446744073709551616 = L at *
  go_enter Try.func5, Try.ntmps5
  go_wp2_with (first | (go_at_call 9; with_reducible refine (c1 _).mono ?_; rintro e w' ⟨rfl, hw⟩; replace hw := hw.symm; subst hw) | (go_at_call 10; with_reducible refine (c _).mono ?_; rintro e w' ⟨rfl, hw⟩; replace hw := hw.symm; subst hw))
  go_ret2
  exact ⟨rfl, rfl⟩
theorem fn25 (a b x : Int) (h : 0 ≤ b) (hb : b ≤ 9223372036854775807) (w : World) : fn_ 25 a b x w (x / 2 ^ min b.toNat 64 != a) := by
  go_enter Try.func8, Try.ntmps8
  go_wp2
  go_ret
  exact ⟨rfl, rfl⟩
theorem rov25 (a b x : Int) (lx : -9223372036854775808 ≤ x) (hx : x ≤ 9223372036854775807) (h : 0 ≤ b) (hb : b ≤ 9223372036854775807) (hxa : 63 < b → x = 0) (c1 : ∀ w, apply_ 25 a b w x 0) (w : World) : rov_ 25 a b w (x / 2 ^ min b.toNat 64 != a) 0 := by
  have c := refshifted_any x (-((min b.toNat 64 : Nat) : Int)) (bitOf x 63) (x / 2 ^ min b.toNat 64) (by omega) (by omega) (bitOf_01 x 63).1 (bitOf_01 x 63).2 (shr_word x lx hx _ (Nat.min_le_right _ _))
  have cf := reffew_any b h _ rfl
  have hb63 : ∀ w, Calls Try.prog 13 #[.int .i64 x, .int .i64 63] w fun e w' => e = .returned (.int .i64 (bitOf x 63)) ∧ w' = w := refbit_any x 63 (by decide)
  have hS : 0 ≤ ((min b.toNat 64 : Nat) : Int) ∧ ((min b.toNat 64 : Nat) : Int) ≤ 64 := by omega
  have h0 : 63 < b → x / 2 ^ min b.toNat 64 = 0 := fun g => by rw [hxa g]; simp
  generalize ((min b.toNat 64 : Nat) : Int) = S at *
  generalize x / 2 ^ min b.toNat 64 = Q at *
  generalize bitOf x 63 = T at *
  by_cases hq : Q = a
  · have e1 : (Q != a) = false := by simpa using hq
    rw [e1]
    by_cases h63 : 63 < b
    · have e2 : (a != 0) = false := by have := h0 h63; rw [hq] at this; simpa using this
      clear hq h0 hxa
      go_enter Try.func5, Try.ntmps5
      go_wp2_with (first | (go_at_call 9; with_reducible refine (c1 _).mono ?_; rintro e w' ⟨rfl, hw⟩; replace hw := hw.symm; subst hw) | (go_at_call 12; with_reducible refine (cf _).mono ?_; rintro e w' ⟨rfl, hw⟩; replace hw := hw.symm; subst hw) | (go_at_call 13; with_reducible refine (hb63 _).mono ?_; rintro e w' ⟨rfl, hw⟩; replace hw := hw.symm; subst hw) | (go_at_call 11; with_reducible refine (c _).mono ?_; rintro e w' ⟨rfl, hw⟩; replace hw := hw.symm; subst hw))
      go_ret2
      exact ⟨rfl, rfl⟩
    · clear hq h0 hxa
      go_enter Try.func5, Try.ntmps5
      go_wp2_with (first | (go_at_call 9; with_reducible refine (c1 _).mono ?_; rintro e w' ⟨rfl, hw⟩; replace hw := hw.symm; subst hw) | (go_at_call 12; with_reducible refine (cf _).mono ?_; rintro e w' ⟨rfl, hw⟩; replace hw := hw.symm; subst hw) | (go_at_call 13; with_reducible refine (hb63 _).mono ?_; rintro e w' ⟨rfl, hw⟩; replace hw := hw.symm; subst hw) | (go_at_call 11; with_reducible refine (c _).mono ?_; rintro e w' ⟨rfl, hw⟩; replace hw := hw.symm; subst hw))
      go_ret2
      exact ⟨rfl, rfl⟩
  · have e1 : (Q != a) = true := by simpa using hq
    rw [e1]
    clear hq h0 hxa
    go_enter Try.func5, Try.ntmps5
    go_wp2_with (first | (go_at_call 9; with_reducible refine (c1 _).mono ?_; rintro e w' ⟨rfl, hw⟩; replace hw := hw.symm; subst hw) | (go_at_call 12; with_reducible refine (cf _).mono ?_; rintro e w' ⟨rfl, hw⟩; replace hw := hw.symm; subst hw) | (go_at_call 13; with_reducible refine (hb63 _).mono ?_; rintro e w' ⟨rfl, hw⟩; replace hw := hw.symm; subst hw) | (go_at_call 11; with_reducible refine (c _).mono ?_; rintro e w' ⟨rfl, hw⟩; replace hw := hw.symm; subst hw))
    go_ret2
    exact ⟨rfl, rfl⟩
/-- Both tell the same. -/
theorem overs (k a b : Int) (la : -9223372036854775808 ≤ a) (ha : a ≤ 9223372036854775807) (lb : -9223372036854775808 ≤ b) (hb : b ≤ 9223372036854775807) : ∃ (r : Bool) (y : Int), (∀ w, pov_ k a b w r y) ∧ (∀ w, rov_ k a b w r y) := by
  by_cases h1 : k = 1
  · subst h1; exact ⟨_, _, pov_of _ a b _ _ (neg_any a b) (fn1 a b _), rov1 a b _ la ha (fun w => apply_one _ a b _ w (by decide) (by decide) (refone1 a))⟩
  by_cases h3 : k = 3
  · subst h3; exact ⟨_, _, pov_of _ a b _ _ (abs_op a b) (fn3 a b _), rov3 a b _ la ha (fun w => apply_one _ a b _ w (by decide) (by decide) (refone3 a))⟩
  by_cases h16 : k = 16
  · subst h16; exact ⟨_, _, pov_of _ a b _ _ (add_any a b) (fn16 a b _ la ha lb hb (wrap64_lo _) (wrap64_hi _)), rov16 a b _ la ha lb hb rfl (fun w => apply_two _ a b _ _ w (by decide) (by decide) (reftwo16 a b))⟩
  by_cases h17 : k = 17
  · subst h17; exact ⟨_, _, pov_of _ a b _ _ (sub_any a b) (fn17 a b _ la ha lb hb (wrap64_lo _) (wrap64_hi _)), rov17 a b _ la ha lb hb rfl (fun w => apply_two _ a b _ _ w (by decide) (by decide) (reftwo17 a b))⟩
  by_cases h18 : k = 18
  · subst h18; exact ⟨_, _, pov_of _ a b _ _ (mul_any a b) (fn18 a b _ la ha lb hb), rov18 a b _ la ha lb hb (fun w => apply_two _ a b _ _ w (by decide) (by decide) (reftwo18 a b la ha lb hb))⟩
  by_cases h19 : k = 19
  · subst h19
    by_cases hz : b = 0
    · exact ⟨_, _, pov_err _ a b _ _ (by decide) (fun w => div_zero a b w hz), rov_err _ a b _ _ (by decide) (fun w => apply_two _ a b _ _ w (by decide) (by decide) (fun w => reftwo19z a b w hz))⟩
    · have p := fun w => div_any a b w (by simpa using hz) hz
      have r := fun w => apply_two 19 a b _ _ w (by decide) (by decide) (fun w => reftwo19 a b la ha lb hb w (by simpa using hz) hz)
      by_cases hm : b = -1
      · exact ⟨_, _, pov_of _ a b _ _ p (fn19m a b _ hm), rov19m a b _ la ha hm r⟩
      · exact ⟨_, _, pov_of _ a b _ _ p (fn19 a b _ hm), rov19 a b _ la ha hm r⟩
  by_cases h25 : k = 25
  · subst h25
    by_cases hz : b < 0
    · exact ⟨_, _, pov_err _ a b _ _ (by decide) (fun w => shl_neg a b w hz), rov_err _ a b _ _ (by decide) (fun w => apply_two _ a b _ _ w (by decide) (by decide) (fun w => reftwo25n a b w hz))⟩
    · have p := fun w => shl_op a b w (by omega) hb
      have r := fun w => apply_two 25 a b _ _ w (by decide) (by decide) (fun w => reftwo25 a b la ha lb hb w (by omega))
      refine ⟨_, _, pov_of _ a b _ _ p (fn25 a b _ (by omega) hb), rov25 a b _ (wrap64_lo _) (wrap64_hi _) (by omega) hb (fun g => ?_) r⟩
      rw [show min b.toNat 64 = 64 by omega, show (2 : Int) ^ 64 = 18446744073709551616 from by decide]
      have e := wrap64_of (a * 18446744073709551616) 0 a (by omega)
      rw [e]; unfold wrap64; omega
  have hn : k ≠ 1 ∧ k ≠ 3 ∧ k ≠ 16 ∧ k ≠ 17 ∧ k ≠ 18 ∧ k ≠ 19 ∧ k ≠ 25 := ⟨h1, h3, h16, h17, h18, h19, h25⟩
  obtain ⟨x, y, p, r, _⟩ := both k a b la ha lb hb
  by_cases hy : y = 0
  · subst hy; exact ⟨_, _, pov_of _ a b _ _ p (fn_none k a b x hn), rov_none k a b x hn r⟩
  · exact ⟨_, _, pov_err _ a b _ _ hy p, rov_err _ a b _ _ hy r⟩
end Go.Proofs.Ytecimplpfghikab.word
