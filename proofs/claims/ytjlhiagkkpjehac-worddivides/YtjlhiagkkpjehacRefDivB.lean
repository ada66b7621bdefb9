/- What the document's own answer to a division of two words makes (scarabref02.Divide), by the signs. -/
import Derived.Test.YtjlhiagkkpjehacRefDiv0
namespace Go.Proofs.Ytjlhiagkkpjehac.word
open Go.ChangeShapes Go.WideShapes Go.ChangeAt Go.RowKit
open wrapped
set_option linter.unusedVariables false
set_option maxRecDepth 100000 in
set_option maxHeartbeats 8000000 in
theorem refdiv_np (lo T B D : Nat) (hi : Int) (hneg : hi < 0) (hT : -1 - hi = (T : Int)) (hlz : ((lo : Int) == 0) = false) (hlB : IntKind.u64.wrap (-(lo : Int)) = (B : Int)) (d : Int) (hdd : d = (D : Int)) (lh : -9223372036854775808 ≤ hi) (hh : hi ≤ 9223372036854775807) (hl : lo < 18446744073709551616) (hBl : B < 18446744073709551616) (hTl : T < 18446744073709551616) (ld : -9223372036854775808 ≤ d) (hd : d ≤ 9223372036854775807) (hd0 : (d == 0) = false) (hD0 : 0 < D) (hD : D ≤ 9223372036854775808)
    (M : Nat) (hM : Hid (T * 18446744073709551616 + B = M)) (hst : Hid (DInv M D 128 0 0 false)) (w : World) :
    Calls Try.prog 15 #[.int .i64 hi, .int .u64 lo, .int .i64 d] w fun e w' => e = .returned (.tuple #[.int .i64 (if dvBig M D true then 0 else sg (M / D) true), .int .i64 (if dvBig M D true then 0 else sg (M % D) true), .int .i64 (if dvBig M D true then 24 else 0)]) ∧ w' = w := by
  subst hdd
  obtain ⟨R1, hR1⟩ : ∃ R1, Hid ((if dvBig M D true then (0 : Int) else sg (M / D) true) = R1) := ⟨_, rfl⟩
  obtain ⟨R2, hR2⟩ : ∃ R2, Hid ((if dvBig M D true then (0 : Int) else sg (M % D) true) = R2) := ⟨_, rfl⟩
  obtain ⟨R3, hR3⟩ : ∃ R3, Hid ((if dvBig M D true then (24 : Int) else 0) = R3) := ⟨_, rfl⟩
  rw [hR1.out, hR2.out, hR3.out]
  go_enter Try.func15, Try.ntmps15
  go_wp2
  go_loop [12, 13, 14, 15] (fun q r o k => ∃ (j x y : Nat) (t : Bool), j ≤ 128 ∧ k = .int .i64 ((j : Int) - 1) ∧ q = .int .u64 x ∧ r = .int .u64 y ∧ o = .bool t ∧ y < D ∧ x < 18446744073709551616 ∧ Hid (DInv M D j x y t)) (fun _ _ _ k => (intOf k + 1).toNat)
  case atStart => exact ⟨128, 0, 0, false, Nat.le_refl _, rfl, rfl, rfl, rfl, hD0, by decide, hst⟩
  case round =>
    obtain ⟨j, x, y, t, hj, rfl, rfl, rfl, rfl, hy, hx, hI⟩ := hrel
    rcases Nat.eq_zero_or_eq_succ_pred j with h0 | h0
    · subst h0
      clear hM hst hj
      cases t with
      | true =>
        have hb := exit_big hI.out true
        have r1 : R1 = 0 := by rw [← hR1.out, if_pos hb]
        have r2 : R2 = 0 := by rw [← hR2.out, if_pos hb]
        have r3 : R3 = 24 := by rw [← hR3.out, if_pos hb]
        subst r1 r2 r3
        clear hb hR1 hR2 hR3 hI
        go_wp2
        go_ret3
        exact ⟨rfl, rfl⟩
      | false =>
        obtain ⟨e1, e2⟩ := exit_low hI.out
        rcases Nat.lt_trichotomy x 9223372036854775808 with hc | hc | hc
        · have hb := big_lt M D x e1 hc true
          have r1 : R1 = sg x true := by rw [← hR1.out, if_neg (by rw [hb]; exact Bool.false_ne_true), e1]
          have r2 : R2 = sg y true := by rw [← hR2.out, if_neg (by rw [hb]; exact Bool.false_ne_true), e2]
          have r3 : R3 = 0 := by rw [← hR3.out, if_neg (by rw [hb]; exact Bool.false_ne_true)]
          rw [sg_true] at r1
          rw [sg_true] at r2
          have HR1 : Hid (R1 = -(x : Int)) := r1.trans (neg_wrap _ (by omega) (by omega))
          have HR2 : Hid (R2 = -(y : Int)) := r2.trans (neg_wrap _ (by omega) (by omega))
          have n6 : (y : Int) ≤ 9223372036854775807 := by omega
          subst r3
          have n1 : ¬ (9223372036854775808 : Int) < (x : Int) := by omega
          have n2 : ((x : Int) == 9223372036854775808) = false := by simp; omega
          have n3 : ¬ (x : Int) = 9223372036854775808 := by omega
          have n5 : (x : Int) ≤ 9223372036854775807 := by omega
          clear hb hR1 hR2 hR3 hI e1 e2 hc r1 r2
          go_wp2
          go_ret3
          exact ⟨ret_three (by first | with_reducible exact HR1.out.symm | (rw [HR1.out]; done) | (rw [HR1.out]; simp [least_one]; done)) (by first | with_reducible exact HR2.out.symm | (rw [HR2.out]; done) | (rw [HR2.out, pos_wrap _ (by omega) (by omega)]; done)) rfl, rfl⟩
        · subst hc
          have hb := (big_eq M D e1).2
          have r1 : R1 = sg 9223372036854775808 true := by rw [← hR1.out, if_neg (by rw [hb]; exact Bool.false_ne_true), e1]
          have r2 : R2 = sg y true := by rw [← hR2.out, if_neg (by rw [hb]; exact Bool.false_ne_true), e2]
          have r3 : R3 = 0 := by rw [← hR3.out, if_neg (by rw [hb]; exact Bool.false_ne_true)]
          rw [sg_true] at r1
          rw [sg_true] at r2
          have HR1 : Hid (R1 = -9223372036854775808) := r1.trans least_wrap
          have HR2 : Hid (R2 = -(y : Int)) := r2.trans (neg_wrap _ (by omega) (by omega))
          have n6 : (y : Int) ≤ 9223372036854775807 := by omega
          have n7 : wrap64 9223372036854775808 = -9223372036854775808 := least_one
          subst r3
          clear hb hR1 hR2 hR3 hI e1 e2 r1 r2
          go_wp2
          go_ret3
          exact ⟨ret_three (by first | with_reducible exact HR1.out.symm | (rw [HR1.out]; done) | (rw [HR1.out]; simp [least_one]; done)) (by first | with_reducible exact HR2.out.symm | (rw [HR2.out]; done) | (rw [HR2.out, pos_wrap _ (by omega) (by omega)]; done)) rfl, rfl⟩
        · have hb := big_gt M D x e1 hc true
          have r1 : R1 = 0 := by rw [← hR1.out, if_pos hb]
          have r2 : R2 = 0 := by rw [← hR2.out, if_pos hb]
          have r3 : R3 = 24 := by rw [← hR3.out, if_pos hb]
          subst r1 r2 r3
          have n1 : (9223372036854775808 : Int) < (x : Int) := by omega
          clear hb hR1 hR2 hR3 hI e1 e2 hc
          go_wp2
          go_ret3
          exact ⟨rfl, rfl⟩
    · generalize j.pred = m at h0
      subst h0
      have hc : (((m.succ : Nat) : Int) - 1) = (m : Int) := by omega
      rw [hc]
      clear hc
      have hm : m < 128 := by omega
      clear hj
      have hcar : (y : Int) / 9223372036854775808 = 0 := by omega
      obtain ⟨b, hb⟩ : ∃ b, Hid (M / 2 ^ m % 2 = b) := ⟨_, rfl⟩
      have hb1 : b ≤ 1 := by have := hb.out; omega
      obtain ⟨s, hs⟩ : ∃ s : Bool, Hid (decide (9223372036854775808 ≤ x) = s) := ⟨_, rfl⟩
      have hs2 : ((x : Int) / 9223372036854775808 == 1) = s := by
        rw [← hs.out]
        by_cases hc : 9223372036854775808 ≤ x
        · rw [decide_eq_true hc]; simp; omega
        · rw [decide_eq_false hc]; simp; omega
      have hS := hI.out.step hD0
      rw [hb.out, hs.out] at hS
      have hbit : (63 < m → bits .and .u64 ((T : Int) / 2 ^ (m - 64)) 1 = (b : Int)) ∧ (¬ 63 < m → bits .and .u64 ((B : Int) / 2 ^ (m % 64)) 1 = (b : Int)) := by
        refine ⟨fun h => ?_, fun h => ?_⟩
        · rw [bits_shift _ _ (by omega) (by omega), bitOf_nat, ← hb.out, ← hM.out, bit_high T B m (by omega) hBl]
        · rw [bits_shift _ _ (by omega) (by omega), bitOf_nat, ← hb.out, ← hM.out, bit_low T B m (by omega), show m % 64 = m from Nat.mod_eq_of_lt (by omega)]
      by_cases hge : D ≤ 2 * y + b
      · have HN : Hid (DInv M D m ((2 * x + 1) % 18446744073709551616) (2 * y + b - D) (t || s)) := hS.1 hge
        have n1 : (D : Int) ≤ (y : Int) * 2 + (b : Int) := by omega
        clear hS hI hb hs hge hM hst
        by_cases h64 : 63 < m
        · have hb2 := hbit.1 h64
          clear hbit
          cases t with
          | true =>
            go_wp2
            go_round
            case rel => exact ⟨m, (2 * x + 1) % 18446744073709551616, 2 * y + b - D, true, by omega, by go_num, (val_int (by simp only [IntKind.wrap_u64]; omega)), (val_int (by first | omega | (simp only [IntKind.wrap_u64]; omega))), rfl, by omega, Nat.mod_lt _ (by decide), HN⟩
            case measure => simp [intOf]
          | false =>
            go_wp2
            go_round
            case rel => exact ⟨m, (2 * x + 1) % 18446744073709551616, 2 * y + b - D, s, by omega, by go_num, (val_int (by simp only [IntKind.wrap_u64]; omega)), (val_int (by first | omega | (simp only [IntKind.wrap_u64]; omega))), rfl, by omega, Nat.mod_lt _ (by decide), HN⟩
            case measure => simp [intOf]
        · have hb2 := hbit.2 h64
          clear hbit
          cases t with
          | true =>
            go_wp2
            go_round
            case rel => exact ⟨m, (2 * x + 1) % 18446744073709551616, 2 * y + b - D, true, by omega, by go_num, (val_int (by simp only [IntKind.wrap_u64]; omega)), (val_int (by first | omega | (simp only [IntKind.wrap_u64]; omega))), rfl, by omega, Nat.mod_lt _ (by decide), HN⟩
            case measure => simp [intOf]
          | false =>
            go_wp2
            go_round
            case rel => exact ⟨m, (2 * x + 1) % 18446744073709551616, 2 * y + b - D, s, by omega, by go_num, (val_int (by simp only [IntKind.wrap_u64]; omega)), (val_int (by first | omega | (simp only [IntKind.wrap_u64]; omega))), rfl, by omega, Nat.mod_lt _ (by decide), HN⟩
            case measure => simp [intOf]
      · have HN : Hid (DInv M D m (2 * x % 18446744073709551616) (2 * y + b) (t || s)) := hS.2 hge
        have n1 : ¬ (D : Int) ≤ (y : Int) * 2 + (b : Int) := by omega
        have n4 : 2 * y + b < D := by omega
        clear hS hI hb hs hge hM hst
        by_cases h64 : 63 < m
        · have hb2 := hbit.1 h64
          clear hbit
          cases t with
          | true =>
            go_wp2
            go_round
            case rel => exact ⟨m, 2 * x % 18446744073709551616, 2 * y + b, true, by omega, by go_num, (val_int (by simp only [IntKind.wrap_u64]; omega)), (val_int (by first | omega | (simp only [IntKind.wrap_u64]; omega))), rfl, n4, Nat.mod_lt _ (by decide), HN⟩
            case measure => simp [intOf]
          | false =>
            go_wp2
            go_round
            case rel => exact ⟨m, 2 * x % 18446744073709551616, 2 * y + b, s, by omega, by go_num, (val_int (by simp only [IntKind.wrap_u64]; omega)), (val_int (by first | omega | (simp only [IntKind.wrap_u64]; omega))), rfl, n4, Nat.mod_lt _ (by decide), HN⟩
            case measure => simp [intOf]
        · have hb2 := hbit.2 h64
          clear hbit
          cases t with
          | true =>
            go_wp2
            go_round
            case rel => exact ⟨m, 2 * x % 18446744073709551616, 2 * y + b, true, by omega, by go_num, (val_int (by simp only [IntKind.wrap_u64]; omega)), (val_int (by first | omega | (simp only [IntKind.wrap_u64]; omega))), rfl, n4, Nat.mod_lt _ (by decide), HN⟩
            case measure => simp [intOf]
          | false =>
            go_wp2
            go_round
            case rel => exact ⟨m, 2 * x % 18446744073709551616, 2 * y + b, s, by omega, by go_num, (val_int (by simp only [IntKind.wrap_u64]; omega)), (val_int (by first | omega | (simp only [IntKind.wrap_u64]; omega))), rfl, n4, Nat.mod_lt _ (by decide), HN⟩
            case measure => simp [intOf]
set_option maxRecDepth 100000 in
set_option maxHeartbeats 8000000 in
theorem refdiv_nn (lo T B D : Nat) (hi : Int) (hneg : hi < 0) (hT : -1 - hi = (T : Int)) (hlz : ((lo : Int) == 0) = false) (hlB : IntKind.u64.wrap (-(lo : Int)) = (B : Int)) (d : Int) (hdn : d < 0) (hby : IntKind.u64.wrap (wrap64 (-d)) = (D : Int)) (lh : -9223372036854775808 ≤ hi) (hh : hi ≤ 9223372036854775807) (hl : lo < 18446744073709551616) (hBl : B < 18446744073709551616) (hTl : T < 18446744073709551616) (ld : -9223372036854775808 ≤ d) (hd : d ≤ 9223372036854775807) (hd0 : (d == 0) = false) (hD0 : 0 < D) (hD : D ≤ 9223372036854775808)
    (M : Nat) (hM : Hid (T * 18446744073709551616 + B = M)) (hst : Hid (DInv M D 128 0 0 false)) (w : World) :
    Calls Try.prog 15 #[.int .i64 hi, .int .u64 lo, .int .i64 d] w fun e w' => e = .returned (.tuple #[.int .i64 (if dvBig M D false then 0 else sg (M / D) false), .int .i64 (if dvBig M D false then 0 else sg (M % D) true), .int .i64 (if dvBig M D false then 24 else 0)]) ∧ w' = w := by
  obtain ⟨R1, hR1⟩ : ∃ R1, Hid ((if dvBig M D false then (0 : Int) else sg (M / D) false) = R1) := ⟨_, rfl⟩
  obtain ⟨R2, hR2⟩ : ∃ R2, Hid ((if dvBig M D false then (0 : Int) else sg (M % D) true) = R2) := ⟨_, rfl⟩
  obtain ⟨R3, hR3⟩ : ∃ R3, Hid ((if dvBig M D false then (24 : Int) else 0) = R3) := ⟨_, rfl⟩
  rw [hR1.out, hR2.out, hR3.out]
  go_enter Try.func15, Try.ntmps15
  go_wp2
  go_loop [12, 13, 14, 15] (fun q r o k => ∃ (j x y : Nat) (t : Bool), j ≤ 128 ∧ k = .int .i64 ((j : Int) - 1) ∧ q = .int .u64 x ∧ r = .int .u64 y ∧ o = .bool t ∧ y < D ∧ x < 18446744073709551616 ∧ Hid (DInv M D j x y t)) (fun _ _ _ k => (intOf k + 1).toNat)
  case atStart => exact ⟨128, 0, 0, false, Nat.le_refl _, rfl, rfl, rfl, rfl, hD0, by decide, hst⟩
  case round =>
    obtain ⟨j, x, y, t, hj, rfl, rfl, rfl, rfl, hy, hx, hI⟩ := hrel
    rcases Nat.eq_zero_or_eq_succ_pred j with h0 | h0
    · subst h0
      clear hM hst hj
      cases t with
      | true =>
        have hb := exit_big hI.out false
        have r1 : R1 = 0 := by rw [← hR1.out, if_pos hb]
        have r2 : R2 = 0 := by rw [← hR2.out, if_pos hb]
        have r3 : R3 = 24 := by rw [← hR3.out, if_pos hb]
        subst r1 r2 r3
        clear hb hR1 hR2 hR3 hI
        go_wp2
        go_ret3
        exact ⟨rfl, rfl⟩
      | false =>
        obtain ⟨e1, e2⟩ := exit_low hI.out
        rcases Nat.lt_trichotomy x 9223372036854775808 with hc | hc | hc
        · have hb := big_lt M D x e1 hc false
          have r1 : R1 = sg x false := by rw [← hR1.out, if_neg (by rw [hb]; exact Bool.false_ne_true), e1]
          have r2 : R2 = sg y true := by rw [← hR2.out, if_neg (by rw [hb]; exact Bool.false_ne_true), e2]
          have r3 : R3 = 0 := by rw [← hR3.out, if_neg (by rw [hb]; exact Bool.false_ne_true)]
          rw [sg_false] at r1
          rw [sg_true] at r2
          have HR1 : Hid (R1 = (x : Int)) := r1.trans (pos_wrap _ (by omega) (by omega))
          have HR2 : Hid (R2 = -(y : Int)) := r2.trans (neg_wrap _ (by omega) (by omega))
          have n6 : (y : Int) ≤ 9223372036854775807 := by omega
          subst r3
          have n1 : ¬ (9223372036854775808 : Int) < (x : Int) := by omega
          have n2 : ((x : Int) == 9223372036854775808) = false := by simp; omega
          have n3 : ¬ (x : Int) = 9223372036854775808 := by omega
          have n5 : (x : Int) ≤ 9223372036854775807 := by omega
          clear hb hR1 hR2 hR3 hI e1 e2 hc r1 r2
          go_wp2
          go_ret3
          exact ⟨ret_three (by first | with_reducible exact HR1.out.symm | (rw [HR1.out]; done) | (rw [HR1.out]; simp [least_one]; done)) (by first | with_reducible exact HR2.out.symm | (rw [HR2.out]; done) | (rw [HR2.out, pos_wrap _ (by omega) (by omega)]; done)) rfl, rfl⟩
        · subst hc
          have hb := (big_eq M D e1).1
          have r1 : R1 = 0 := by rw [← hR1.out, if_pos hb]
          have r2 : R2 = 0 := by rw [← hR2.out, if_pos hb]
          have r3 : R3 = 24 := by rw [← hR3.out, if_pos hb]
          skip
          skip
          have HR1 : Hid (R1 = 0) := r1
          have HR2 : Hid (R2 = 0) := r2
          have n6 : (y : Int) ≤ 9223372036854775807 := by omega
          have n7 : wrap64 9223372036854775808 = -9223372036854775808 := least_one
          subst r3
          clear hb hR1 hR2 hR3 hI e1 e2 r1 r2
          go_wp2
          go_ret3
          exact ⟨ret_three (by first | with_reducible exact HR1.out.symm | (rw [HR1.out]; done) | (rw [HR1.out]; simp [least_one]; done)) (by first | with_reducible exact HR2.out.symm | (rw [HR2.out]; done) | (rw [HR2.out, pos_wrap _ (by omega) (by omega)]; done)) rfl, rfl⟩
        · have hb := big_gt M D x e1 hc false
          have r1 : R1 = 0 := by rw [← hR1.out, if_pos hb]
          have r2 : R2 = 0 := by rw [← hR2.out, if_pos hb]
          have r3 : R3 = 24 := by rw [← hR3.out, if_pos hb]
          subst r1 r2 r3
          have n1 : (9223372036854775808 : Int) < (x : Int) := by omega
          clear hb hR1 hR2 hR3 hI e1 e2 hc
          go_wp2
          go_ret3
          exact ⟨rfl, rfl⟩
    · generalize j.pred = m at h0
      subst h0
      have hc : (((m.succ : Nat) : Int) - 1) = (m : Int) := by omega
      rw [hc]
      clear hc
      have hm : m < 128 := by omega
      clear hj
      have hcar : (y : Int) / 9223372036854775808 = 0 := by omega
      obtain ⟨b, hb⟩ : ∃ b, Hid (M / 2 ^ m % 2 = b) := ⟨_, rfl⟩
      have hb1 : b ≤ 1 := by have := hb.out; omega
      obtain ⟨s, hs⟩ : ∃ s : Bool, Hid (decide (9223372036854775808 ≤ x) = s) := ⟨_, rfl⟩
      have hs2 : ((x : Int) / 9223372036854775808 == 1) = s := by
        rw [← hs.out]
        by_cases hc : 9223372036854775808 ≤ x
        · rw [decide_eq_true hc]; simp; omega
        · rw [decide_eq_false hc]; simp; omega
      have hS := hI.out.step hD0
      rw [hb.out, hs.out] at hS
      have hbit : (63 < m → bits .and .u64 ((T : Int) / 2 ^ (m - 64)) 1 = (b : Int)) ∧ (¬ 63 < m → bits .and .u64 ((B : Int) / 2 ^ (m % 64)) 1 = (b : Int)) := by
        refine ⟨fun h => ?_, fun h => ?_⟩
        · rw [bits_shift _ _ (by omega) (by omega), bitOf_nat, ← hb.out, ← hM.out, bit_high T B m (by omega) hBl]
        · rw [bits_shift _ _ (by omega) (by omega), bitOf_nat, ← hb.out, ← hM.out, bit_low T B m (by omega), show m % 64 = m from Nat.mod_eq_of_lt (by omega)]
      by_cases hge : D ≤ 2 * y + b
      · have HN : Hid (DInv M D m ((2 * x + 1) % 18446744073709551616) (2 * y + b - D) (t || s)) := hS.1 hge
        have n1 : (D : Int) ≤ (y : Int) * 2 + (b : Int) := by omega
        clear hS hI hb hs hge hM hst
        by_cases h64 : 63 < m
        · have hb2 := hbit.1 h64
          clear hbit
          cases t with
          | true =>
            go_wp2
            go_round
            case rel => exact ⟨m, (2 * x + 1) % 18446744073709551616, 2 * y + b - D, true, by omega, by go_num, (val_int (by simp only [IntKind.wrap_u64]; omega)), (val_int (by first | omega | (simp only [IntKind.wrap_u64]; omega))), rfl, by omega, Nat.mod_lt _ (by decide), HN⟩
            case measure => simp [intOf]
          | false =>
            go_wp2
            go_round
            case rel => exact ⟨m, (2 * x + 1) % 18446744073709551616, 2 * y + b - D, s, by omega, by go_num, (val_int (by simp only [IntKind.wrap_u64]; omega)), (val_int (by first | omega | (simp only [IntKind.wrap_u64]; omega))), rfl, by omega, Nat.mod_lt _ (by decide), HN⟩
            case measure => simp [intOf]
        · have hb2 := hbit.2 h64
          clear hbit
          cases t with
          | true =>
            go_wp2
            go_round
            case rel => exact ⟨m, (2 * x + 1) % 18446744073709551616, 2 * y + b - D, true, by omega, by go_num, (val_int (by simp only [IntKind.wrap_u64]; omega)), (val_int (by first | omega | (simp only [IntKind.wrap_u64]; omega))), rfl, by omega, Nat.mod_lt _ (by decide), HN⟩
            case measure => simp [intOf]
          | false =>
            go_wp2
            go_round
            case rel => exact ⟨m, (2 * x + 1) % 18446744073709551616, 2 * y + b - D, s, by omega, by go_num, (val_int (by simp only [IntKind.wrap_u64]; omega)), (val_int (by first | omega | (simp only [IntKind.wrap_u64]; omega))), rfl, by omega, Nat.mod_lt _ (by decide), HN⟩
            case measure => simp [intOf]
      · have HN : Hid (DInv M D m (2 * x % 18446744073709551616) (2 * y + b) (t || s)) := hS.2 hge
        have n1 : ¬ (D : Int) ≤ (y : Int) * 2 + (b : Int) := by omega
        have n4 : 2 * y + b < D := by omega
        clear hS hI hb hs hge hM hst
        by_cases h64 : 63 < m
        · have hb2 := hbit.1 h64
          clear hbit
          cases t with
          | true =>
            go_wp2
            go_round
            case rel => exact ⟨m, 2 * x % 18446744073709551616, 2 * y + b, true, by omega, by go_num, (val_int (by simp only [IntKind.wrap_u64]; omega)), (val_int (by first | omega | (simp only [IntKind.wrap_u64]; omega))), rfl, n4, Nat.mod_lt _ (by decide), HN⟩
            case measure => simp [intOf]
          | false =>
            go_wp2
            go_round
            case rel => exact ⟨m, 2 * x % 18446744073709551616, 2 * y + b, s, by omega, by go_num, (val_int (by simp only [IntKind.wrap_u64]; omega)), (val_int (by first | omega | (simp only [IntKind.wrap_u64]; omega))), rfl, n4, Nat.mod_lt _ (by decide), HN⟩
            case measure => simp [intOf]
        · have hb2 := hbit.2 h64
          clear hbit
          cases t with
          | true =>
            go_wp2
            go_round
            case rel => exact ⟨m, 2 * x % 18446744073709551616, 2 * y + b, true, by omega, by go_num, (val_int (by simp only [IntKind.wrap_u64]; omega)), (val_int (by first | omega | (simp only [IntKind.wrap_u64]; omega))), rfl, n4, Nat.mod_lt _ (by decide), HN⟩
            case measure => simp [intOf]
          | false =>
            go_wp2
            go_round
            case rel => exact ⟨m, 2 * x % 18446744073709551616, 2 * y + b, s, by omega, by go_num, (val_int (by simp only [IntKind.wrap_u64]; omega)), (val_int (by first | omega | (simp only [IntKind.wrap_u64]; omega))), rfl, n4, Nat.mod_lt _ (by decide), HN⟩
            case measure => simp [intOf]
end Go.Proofs.Ytjlhiagkkpjehac.word
