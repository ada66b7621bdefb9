/- Contract of package word's Divide: a number of two words by a word. -/
import Derived.Test.YtjlhiagkkpjehacDiv2
import Derived.Shelf.Spec.BitsCarry
namespace Go.Proofs.Ytjlhiagkkpjehac.word
open Go.ChangeShapes Go.WideShapes Go.ChangeAt Go.RowKit
open wrapped
set_option linter.unusedVariables false
theorem sub64 (x y b : Nat) (hb : b ≤ 1) (w : World) :
    (callFunc 33 #[.int .u64 x, .int .u64 y, .int .u64 b]).run Try.prog w =
      .ok (.value (.tuple #[.int .u64 (((x + 18446744073709551616 - y - b) % 18446744073709551616 : Nat) : Int), .int .u64 ((if x < y + b then 1 else 0 : Nat) : Int)])) w := by
  rw [run_callFunc_extern Try.func33 (by kernel_rfl) (by kernel_rfl) (by kernel_rfl) (e := sub64Entry) (by kernel_rfl), run_sub64 x y b hb]
  rfl
/-- The size of a number of two words. -/
def sz2 (hi lo : Int) : Nat := (hi * 18446744073709551616 + lo).natAbs
theorem size_any (hi : Int) (lo : Nat) (lh : -9223372036854775808 ≤ hi) (hh : hi ≤ 9223372036854775807) (hl : lo < 18446744073709551616) (w : World) :
    Calls Try.prog 21 #[.int .i64 hi, .int .u64 lo] w fun e w' => e = .returned (.tuple #[.int .u64 ((sz2 hi lo / 18446744073709551616 : Nat) : Int), .int .u64 ((sz2 hi lo % 18446744073709551616 : Nat) : Int)]) ∧ w' = w := by
  by_cases h0 : 0 ≤ hi
  · have e1 : Hid (sz2 hi lo = hi.toNat * 18446744073709551616 + lo) := by show (hi * 18446744073709551616 + lo).natAbs = _; omega
    go_enter Try.func21, Try.ntmps21
    go_wp2
    go_ret2
    exact ⟨ret_two (by rw [e1.out]; omega) (by rw [e1.out]; omega), rfl⟩
  · obtain ⟨H, hH⟩ : ∃ H : Nat, IntKind.u64.wrap hi = (H : Int) := ⟨(hi + 18446744073709551616).toNat, by rw [IntKind.wrap_u64]; omega⟩
    have hH2 : Hid ((H : Int) = hi + 18446744073709551616) := by show (H : Int) = _; rw [← hH, IntKind.wrap_u64]; omega
    by_cases hz : lo = 0
    · subst hz
      have e1 : Hid (sz2 hi 0 = (-hi).toNat * 18446744073709551616) := by show (hi * 18446744073709551616 + 0).natAbs = _; omega
      have s1 : ∀ w, (callFunc 33 #[.int .u64 0, .int .u64 0, .int .u64 0]).run Try.prog w = .ok (.value (.tuple #[.int .u64 0, .int .u64 0])) w := fun w => sub64 0 0 0 (by decide) w
      have s2 : ∀ w, (callFunc 33 #[.int .u64 0, .int .u64 (H : Int), .int .u64 0]).run Try.prog w = .ok (.value (.tuple #[.int .u64 ((18446744073709551616 - H : Nat) : Int), .int .u64 1])) w := fun w => by
        have h := sub64 0 H 0 (by decide) w
        rw [show (0 + 18446744073709551616 - H - 0) % 18446744073709551616 = 18446744073709551616 - H by have := hH2.out; omega, if_pos (by have := hH2.out; omega)] at h
        exact h
      go_enter Try.func21, Try.ntmps21
      go_wp2
      go_ret2
      exact ⟨ret_two (by have := hH2.out; rw [e1.out]; omega) (by rw [e1.out]; omega), rfl⟩
    · have e1 : Hid (sz2 hi lo = ((-hi).toNat - 1) * 18446744073709551616 + (18446744073709551616 - lo)) := by show (hi * 18446744073709551616 + lo).natAbs = _; omega
      have s1 : ∀ w, (callFunc 33 #[.int .u64 0, .int .u64 (lo : Int), .int .u64 0]).run Try.prog w = .ok (.value (.tuple #[.int .u64 ((18446744073709551616 - lo : Nat) : Int), .int .u64 1])) w := fun w => by
        have h := sub64 0 lo 0 (by decide) w
        rw [show (0 + 18446744073709551616 - lo - 0) % 18446744073709551616 = 18446744073709551616 - lo by omega, if_pos (by omega)] at h
        exact h
      have s2 : ∀ w, (callFunc 33 #[.int .u64 0, .int .u64 (H : Int), .int .u64 1]).run Try.prog w = .ok (.value (.tuple #[.int .u64 ((18446744073709551616 - H - 1 : Nat) : Int), .int .u64 1])) w := fun w => by
        have h := sub64 0 H 1 (by decide) w
        rw [show (0 + 18446744073709551616 - H - 1) % 18446744073709551616 = 18446744073709551616 - H - 1 by have := hH2.out; omega, if_pos (by omega)] at h
        exact h
      go_enter Try.func21, Try.ntmps21
      go_wp2
      go_ret2
      exact ⟨ret_two (by have := hH2.out; rw [e1.out]; omega) (by rw [e1.out]; omega), rfl⟩
/-- A size with a sign, and whether it is a word. -/
def sg (x : Nat) (below : Bool) : Int := if below then wrap64 (-wrap64 x) else wrap64 x
def sgok (x : Nat) (below : Bool) : Bool := if below then decide ((x : Int) ≤ 9223372036854775808) else decide ((x : Int) ≤ 9223372036854775807)
theorem sg_true (x : Nat) : sg x true = wrap64 (-wrap64 x) := by unfold sg; rw [if_pos rfl]
theorem sg_false (x : Nat) : sg x false = wrap64 x := by unfold sg; rw [if_neg Bool.false_ne_true]
theorem sgok_true (x : Nat) : sgok x true = decide ((x : Int) ≤ 9223372036854775808) := by unfold sgok; rw [if_pos rfl]
theorem sgok_false (x : Nat) : sgok x false = decide ((x : Int) ≤ 9223372036854775807) := by unfold sgok; rw [if_neg Bool.false_ne_true]
theorem signed_any (x : Nat) (below : Bool) (hx : x < 18446744073709551616) (w : World) :
    Calls Try.prog 23 #[.int .u64 x, .bool below] w fun e w' => e = .returned (.tuple #[.int .i64 (sg x below), .bool (sgok x below)]) ∧ w' = w := by
  cases below with
  | true =>
    rw [sg_true, sgok_true]
    go_enter Try.func23, Try.ntmps23
    go_wp2
    go_ret2
    exact ⟨rfl, rfl⟩
  | false =>
    rw [sg_false, sgok_false]
    go_enter Try.func23, Try.ntmps23
    go_wp2
    go_ret2
    exact ⟨rfl, rfl⟩
/-- What Divide answers: the quotient, the rest, the error. -/
def dvBig (M D : Nat) (below : Bool) : Bool := !sgok (M / D) below
theorem dv_small {M D : Nat} {below : Bool} (hD : 0 < D) (h : dvBig M D below = false) : M / 18446744073709551616 < D := by
  unfold dvBig sgok at h
  have h2 : M / D ≤ 9223372036854775808 := by
    generalize M / D = q at h ⊢
    cases below <;> simp at h <;> omega
  rw [Nat.div_lt_iff_lt_mul (by decide)]
  have := Nat.lt_mul_div_succ M hD
  have h3 : D * (M / D + 1) ≤ D * 9223372036854775809 := Nat.mul_le_mul_left _ (by omega)
  omega
set_option maxHeartbeats 2000000 in
theorem divide_zero (hi : Int) (lo : Nat) (w : World) : Calls Try.prog 14 #[.int .i64 hi, .int .u64 lo, .int .i64 0] w fun e w' => e = .returned (.tuple #[.int .i64 0, .int .i64 0, .int .i64 20]) ∧ w' = w := by
  go_enter Try.func14, Try.ntmps14
  go_wp2
  go_ret3
  exact ⟨rfl, rfl⟩
set_option maxHeartbeats 2000000 in
theorem divide_any (hi d : Int) (lo M D : Nat) (lh : -9223372036854775808 ≤ hi) (hh : hi ≤ 9223372036854775807) (hl : lo < 18446744073709551616) (ld : -9223372036854775808 ≤ d) (hd : d ≤ 9223372036854775807) (hd0 : d ≠ 0)
    (HM : Hid (sz2 hi lo = M)) (HD : Hid (d.natAbs = D)) (w : World) :
    Calls Try.prog 14 #[.int .i64 hi, .int .u64 lo, .int .i64 d] w fun e w' => ∃ n, e = .returned (.tuple #[.int .i64 (if dvBig M D (decide (hi < 0) != decide (d < 0)) then 0 else sg (M / D) (decide (hi < 0) != decide (d < 0))),
      .int .i64 (if dvBig M D (decide (hi < 0) != decide (d < 0)) then 0 else sg (M % D) (decide (hi < 0))), .int .i64 (if dvBig M D (decide (hi < 0) != decide (d < 0)) then 24 else 0)]) ∧ w' = w.drewN n := by
  have hD : 0 < D := by rw [← HD.out]; omega
  have hD2 : D ≤ 9223372036854775808 := by rw [← HD.out]; omega
  have hdz : (d == 0) = false := by simpa using hd0
  obtain ⟨T, hT⟩ : ∃ T, Hid (M / 18446744073709551616 = T) := ⟨_, rfl⟩
  obtain ⟨B, hB⟩ : ∃ B, Hid (M % 18446744073709551616 = B) := ⟨_, rfl⟩
  have cs := size_any hi lo lh hh hl
  rw [HM.out, hT.out, hB.out] at cs
  have hBl : B < 18446744073709551616 := by rw [← hB.out]; exact Nat.mod_lt _ (by decide)
  have hM : T * 18446744073709551616 + B = M := by rw [← hT.out, ← hB.out]; omega
  have hMM : Hid (T * 18446744073709551616 + B = M) := hM
  have hby : Hid ((D : Int) = if d < 0 then -d else d) := by show (D : Int) = _; rw [← HD.out]; split <;> omega
  clear hM
  obtain ⟨bl, hbl⟩ : ∃ bl, Hid ((decide (hi < 0) != decide (d < 0)) = bl) := ⟨_, rfl⟩
  rw [hbl.out]
  by_cases htop : D ≤ T
  · have hbig : dvBig M D bl = true := by
      cases hv : dvBig M D bl with
      | true => rfl
      | false => have := dv_small hD hv; rw [hT.out] at this; omega
    rw [if_pos hbig, if_pos hbig, if_pos hbig]
    have n1 : (D : Int) ≤ (T : Int) := by omega
    clear htop hbig hT hB HM HD hbl
    by_cases hdn : d < 0
    · have hw : IntKind.u64.wrap (-IntKind.u64.wrap d) = (D : Int) := by have := hby.out; rw [if_pos hdn] at this; simp only [IntKind.wrap_u64]; omega
      go_enter Try.func14, Try.ntmps14
      go_wp2_with (go_at_call 21; with_reducible refine (cs _).mono ?_; rintro e w' ⟨rfl, rfl⟩)
      go_ret3
      first | exact ⟨0, rfl, rfl⟩ | exact ⟨rfl, 0, rfl⟩
    · have hw : d = (D : Int) := by have := hby.out; rw [if_neg hdn] at this; omega
      subst hw
      go_enter Try.func14, Try.ntmps14
      go_wp2_with (go_at_call 21; with_reducible refine (cs _).mono ?_; rintro e w' ⟨rfl, rfl⟩)
      go_ret3
      first | exact ⟨0, rfl, rfl⟩ | exact ⟨rfl, 0, rfl⟩
  · have hTD : T < D := by omega
    have n1 : ¬ (D : Int) ≤ (T : Int) := by omega
    have c6 := div64_any T B D hTD hBl (by omega)
    rw [hMM.out] at c6
    have hq : M / D < 18446744073709551616 := by
      rw [Nat.div_lt_iff_lt_mul hD, ← hMM.out]
      have : (T + 1) * 18446744073709551616 ≤ D * 18446744073709551616 := Nat.mul_le_mul_right _ hTD
      omega
    have hr : M % D < 18446744073709551616 := by have := Nat.mod_lt M hD; omega
    have hdef : dvBig M D bl = !sgok (M / D) bl := rfl
    rw [hdef]
    by_cases hin : hi < 0 <;> by_cases hdn : d < 0
    · have eh : decide (hi < 0) = true := by simpa using hin
      have ed : decide (d < 0) = true := by simpa using hdn
      have eb : bl = false := by rw [← hbl.out, eh, ed]; rfl
      subst eb
      rw [eh]
      have c7 := signed_any (M / D) false hq
      have c8 := signed_any (M % D) true hr
      generalize sg (M / D) false = v1 at c7 ⊢
      generalize sgok (M / D) false = v2 at c7 ⊢
      generalize sg (M % D) true = v3 at c8 ⊢
      generalize sgok (M % D) true = v4 at c8 ⊢
      generalize M / D = q at c6 c7 hq
      generalize M % D = r at c6 c8 hr
      clear htop hT hB HM HD hbl hdef hMM
      have hw : IntKind.u64.wrap (-IntKind.u64.wrap d) = (D : Int) := by have := hby.out; rw [if_pos hdn] at this; simp only [IntKind.wrap_u64]; omega
      clear hby
      cases v2 with
      | true =>
        go_enter Try.func14, Try.ntmps14
        go_wp2_with (first | (go_at_call 21; with_reducible refine (cs _).mono ?_; rintro e w' ⟨rfl, rfl⟩) | (go_at_call 22; with_reducible refine (c6 _).mono ?_; rintro e w6 ⟨n6, rfl, hw6⟩; subst hw6) | (go_at_call 23; first | (with_reducible refine (c7 _).mono ?_; rintro e w7 ⟨rfl, hw7⟩; subst hw7) | (with_reducible refine (c8 _).mono ?_; rintro e w8 ⟨rfl, hw8⟩; subst hw8)))
        go_ret3
        first | exact ⟨n6, rfl, rfl⟩ | exact ⟨rfl, n6, rfl⟩
      | false =>
        go_enter Try.func14, Try.ntmps14
        go_wp2_with (first | (go_at_call 21; with_reducible refine (cs _).mono ?_; rintro e w' ⟨rfl, rfl⟩) | (go_at_call 22; with_reducible refine (c6 _).mono ?_; rintro e w6 ⟨n6, rfl, hw6⟩; subst hw6) | (go_at_call 23; first | (with_reducible refine (c7 _).mono ?_; rintro e w7 ⟨rfl, hw7⟩; subst hw7) | (with_reducible refine (c8 _).mono ?_; rintro e w8 ⟨rfl, hw8⟩; subst hw8)))
        go_ret3
        first | exact ⟨n6, rfl, rfl⟩ | exact ⟨rfl, n6, rfl⟩
    · have eh : decide (hi < 0) = true := by simpa using hin
      have ed : decide (d < 0) = false := by simpa using hdn
      have eb : bl = true := by rw [← hbl.out, eh, ed]; rfl
      subst eb
      rw [eh]
      have c7 := signed_any (M / D) true hq
      have c8 := signed_any (M % D) true hr
      generalize sg (M / D) true = v1 at c7 ⊢
      generalize sgok (M / D) true = v2 at c7 ⊢
      generalize sg (M % D) true = v3 at c8 ⊢
      generalize sgok (M % D) true = v4 at c8 ⊢
      generalize M / D = q at c6 c7 hq
      generalize M % D = r at c6 c8 hr
      clear htop hT hB HM HD hbl hdef hMM
      have hw : d = (D : Int) := by have := hby.out; rw [if_neg hdn] at this; omega
      clear hby
      subst hw
      cases v2 with
      | true =>
        go_enter Try.func14, Try.ntmps14
        go_wp2_with (first | (go_at_call 21; with_reducible refine (cs _).mono ?_; rintro e w' ⟨rfl, rfl⟩) | (go_at_call 22; with_reducible refine (c6 _).mono ?_; rintro e w6 ⟨n6, rfl, hw6⟩; subst hw6) | (go_at_call 23; first | (with_reducible refine (c7 _).mono ?_; rintro e w7 ⟨rfl, hw7⟩; subst hw7) | (with_reducible refine (c8 _).mono ?_; rintro e w8 ⟨rfl, hw8⟩; subst hw8)))
        go_ret3
        first | exact ⟨n6, rfl, rfl⟩ | exact ⟨rfl, n6, rfl⟩
      | false =>
        go_enter Try.func14, Try.ntmps14
        go_wp2_with (first | (go_at_call 21; with_reducible refine (cs _).mono ?_; rintro e w' ⟨rfl, rfl⟩) | (go_at_call 22; with_reducible refine (c6 _).mono ?_; rintro e w6 ⟨n6, rfl, hw6⟩; subst hw6) | (go_at_call 23; first | (with_reducible refine (c7 _).mono ?_; rintro e w7 ⟨rfl, hw7⟩; subst hw7) | (with_reducible refine (c8 _).mono ?_; rintro e w8 ⟨rfl, hw8⟩; subst hw8)))
        go_ret3
        first | exact ⟨n6, rfl, rfl⟩ | exact ⟨rfl, n6, rfl⟩
    · have eh : decide (hi < 0) = false := by simpa using hin
      have ed : decide (d < 0) = true := by simpa using hdn
      have eb : bl = true := by rw [← hbl.out, eh, ed]; rfl
      subst eb
      rw [eh]
      have c7 := signed_any (M / D) true hq
      have c8 := signed_any (M % D) false hr
      generalize sg (M / D) true = v1 at c7 ⊢
      generalize sgok (M / D) true = v2 at c7 ⊢
      generalize sg (M % D) false = v3 at c8 ⊢
      generalize sgok (M % D) false = v4 at c8 ⊢
      generalize M / D = q at c6 c7 hq
      generalize M % D = r at c6 c8 hr
      clear htop hT hB HM HD hbl hdef hMM
      have hw : IntKind.u64.wrap (-IntKind.u64.wrap d) = (D : Int) := by have := hby.out; rw [if_pos hdn] at this; simp only [IntKind.wrap_u64]; omega
      clear hby
      cases v2 with
      | true =>
        go_enter Try.func14, Try.ntmps14
        go_wp2_with (first | (go_at_call 21; with_reducible refine (cs _).mono ?_; rintro e w' ⟨rfl, rfl⟩) | (go_at_call 22; with_reducible refine (c6 _).mono ?_; rintro e w6 ⟨n6, rfl, hw6⟩; subst hw6) | (go_at_call 23; first | (with_reducible refine (c7 _).mono ?_; rintro e w7 ⟨rfl, hw7⟩; subst hw7) | (with_reducible refine (c8 _).mono ?_; rintro e w8 ⟨rfl, hw8⟩; subst hw8)))
        go_ret3
        first | exact ⟨n6, rfl, rfl⟩ | exact ⟨rfl, n6, rfl⟩
      | false =>
        go_enter Try.func14, Try.ntmps14
        go_wp2_with (first | (go_at_call 21; with_reducible refine (cs _).mono ?_; rintro e w' ⟨rfl, rfl⟩) | (go_at_call 22; with_reducible refine (c6 _).mono ?_; rintro e w6 ⟨n6, rfl, hw6⟩; subst hw6) | (go_at_call 23; first | (with_reducible refine (c7 _).mono ?_; rintro e w7 ⟨rfl, hw7⟩; subst hw7) | (with_reducible refine (c8 _).mono ?_; rintro e w8 ⟨rfl, hw8⟩; subst hw8)))
        go_ret3
        first | exact ⟨n6, rfl, rfl⟩ | exact ⟨rfl, n6, rfl⟩
    · have eh : decide (hi < 0) = false := by simpa using hin
      have ed : decide (d < 0) = false := by simpa using hdn
      have eb : bl = false := by rw [← hbl.out, eh, ed]; rfl
      subst eb
      rw [eh]
      have c7 := signed_any (M / D) false hq
      have c8 := signed_any (M % D) false hr
      generalize sg (M / D) false = v1 at c7 ⊢
      generalize sgok (M / D) false = v2 at c7 ⊢
      generalize sg (M % D) false = v3 at c8 ⊢
      generalize sgok (M % D) false = v4 at c8 ⊢
      generalize M / D = q at c6 c7 hq
      generalize M % D = r at c6 c8 hr
      clear htop hT hB HM HD hbl hdef hMM
      have hw : d = (D : Int) := by have := hby.out; rw [if_neg hdn] at this; omega
      clear hby
      subst hw
      cases v2 with
      | true =>
        go_enter Try.func14, Try.ntmps14
        go_wp2_with (first | (go_at_call 21; with_reducible refine (cs _).mono ?_; rintro e w' ⟨rfl, rfl⟩) | (go_at_call 22; with_reducible refine (c6 _).mono ?_; rintro e w6 ⟨n6, rfl, hw6⟩; subst hw6) | (go_at_call 23; first | (with_reducible refine (c7 _).mono ?_; rintro e w7 ⟨rfl, hw7⟩; subst hw7) | (with_reducible refine (c8 _).mono ?_; rintro e w8 ⟨rfl, hw8⟩; subst hw8)))
        go_ret3
        first | exact ⟨n6, rfl, rfl⟩ | exact ⟨rfl, n6, rfl⟩
      | false =>
        go_enter Try.func14, Try.ntmps14
        go_wp2_with (first | (go_at_call 21; with_reducible refine (cs _).mono ?_; rintro e w' ⟨rfl, rfl⟩) | (go_at_call 22; with_reducible refine (c6 _).mono ?_; rintro e w6 ⟨n6, rfl, hw6⟩; subst hw6) | (go_at_call 23; first | (with_reducible refine (c7 _).mono ?_; rintro e w7 ⟨rfl, hw7⟩; subst hw7) | (with_reducible refine (c8 _).mono ?_; rintro e w8 ⟨rfl, hw8⟩; subst hw8)))
        go_ret3
        first | exact ⟨n6, rfl, rfl⟩ | exact ⟨rfl, n6, rfl⟩
end Go.Proofs.Ytjlhiagkkpjehac.word
