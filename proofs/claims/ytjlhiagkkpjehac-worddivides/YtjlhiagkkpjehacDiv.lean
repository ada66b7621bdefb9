/- Contract of math/bits.Div64: the quotient and the rest of two words by one, where the quotient is a word. -/
import Derived.Test.YtjlhiagkkpjehacRows
import Derived.Test.YtjlhiagkkpjehacShelf
import Derived.Test.YtjlhiagkkpjehacBits
import Derived.Lib.BitFns
import Derived.Laws.MathBits
import Derived.WalkKit
import Derived.ProofKit
import Derived.OpenShut
import Derived.WalkSpells
import Derived.WalkLawsBesides
namespace Go.Proofs.Ytjlhiagkkpjehac.word
open Go.ChangeShapes Go.WideShapes Go.ChangeAt Go.RowKit
open wrapped
set_option linter.unusedVariables false
theorem lead64_any (y : Nat) (hy : y < 18446744073709551616) (w : World) : Calls Try.prog 34 #[.int .u64 y] w fun e w' => e = .returned (.int .i64 ((64 - Lib.bitLen y : Nat) : Int)) ∧ w' = w := by
  have h1 : Lib.bitLen y ≤ 64 := Lib.bitLen_le _ 64 (by decide) (by rw [show 2 ^ 64 = 18446744073709551616 from by decide]; exact hy)
  have c := fun w => Try.bits_Len64 (y : Int) w (by omega) (by omega)
  rw [show ((y : Int).toNat) = y by omega] at c
  generalize Lib.bitLen y = L at c h1
  go_enter Try.func34, Try.ntmps34
  go_wp2_with (go_at_call 41; with_reducible refine (c _).mono ?_; rintro e w' ⟨rfl, rfl⟩)
  go_ret
  exact ⟨ret_int (by omega), rfl⟩
theorem div64_low (lo y : Nat) (hl : lo < 18446744073709551616) (hy : y < 18446744073709551616) (h0 : 0 < y) (w : World) :
    Calls Try.prog 22 #[.int .u64 0, .int .u64 lo, .int .u64 y] w fun e w' => ∃ n, e = .returned (.tuple #[.int .u64 ((lo / y : Nat) : Int), .int .u64 ((lo % y : Nat) : Int)]) ∧ w' = w.drewN n := by
  have h1 : ((y : Int) == 0) = false := by simp; omega
  have h2 : ¬ (y : Int) ≤ 0 := by omega
  have h3 : ¬ (y : Int) = 0 := by omega
  go_enter Try.func22, Try.ntmps22
  go_wp2
  go_region
  all_goals go_wp2
  all_goals go_ret2
  all_goals exact ⟨1, ret_two (by rw [IntKind.wrap_u64, show ((lo / y : Nat) : Int) = (lo : Int) / (y : Int) from Int.natCast_ediv lo y]; exact Int.emod_eq_of_lt (Int.ediv_nonneg (by omega) (by omega)) (Int.lt_of_le_of_lt (Int.ediv_le_self _ (by omega)) (by omega))) (by rw [Int.natCast_emod]), rfl⟩
/-- A guess q of a half word's quotient and its rest r: never too small. -/
def KInv (U Y a d q r : Nat) : Prop := U = q * a + r ∧ (U * 4294967296 + d) / Y ≤ q
theorem KInv.start (U Y a b d : Nat) (hY : Y = a * 4294967296 + b) (ha : 0 < a) (hd : d < 4294967296) : KInv U Y a d (U / a) (U - U / a * a) := by
  have h1 := Nat.div_add_mod' U a
  refine ⟨by omega, ?_⟩
  rw [Nat.le_div_iff_mul_le ha]
  have h2 := Nat.div_mul_le_self (U * 4294967296 + d) Y
  generalize (U * 4294967296 + d) / Y = q at h2
  rw [hY, Nat.mul_add, ← Nat.mul_assoc] at h2
  generalize q * a = m at h2 ⊢
  generalize q * b = k at h2
  omega
theorem KInv.next {U Y a b d q r : Nat} (hY : Y = a * 4294967296 + b) (hU : U < Y) (hd : d < 4294967296) (h : KInv U Y a d q r) (hc : 4294967296 ≤ q ∨ 4294967296 * r + d < q * b) :
    1 ≤ q ∧ KInv U Y a d (q - 1) (r + a) := by
  obtain ⟨h1, h2⟩ := h
  have hYp : 0 < Y := by omega
  have hlt : (U * 4294967296 + d) / Y < q := by
    rcases hc with hc | hc
    · have : (U * 4294967296 + d) / Y < 4294967296 := by
        rw [Nat.div_lt_iff_lt_mul hYp]
        have : (U + 1) * 4294967296 ≤ Y * 4294967296 := Nat.mul_le_mul_right _ hU
        omega
      exact Nat.lt_of_lt_of_le this hc
    · rw [Nat.div_lt_iff_lt_mul hYp, hY, Nat.mul_add, ← Nat.mul_assoc]
      generalize q * a = m at h1 ⊢
      generalize q * b = k at hc ⊢
      omega
  have hq1 : 1 ≤ q := Nat.lt_of_le_of_lt (Nat.zero_le _) hlt
  refine ⟨hq1, ?_, Nat.le_sub_one_of_lt hlt⟩
  have : q * a = (q - 1) * a + a := by
    obtain ⟨p, rfl⟩ : ∃ p, q = p + 1 := ⟨q - 1, by omega⟩
    rw [Nat.add_sub_cancel, Nat.add_mul, Nat.one_mul]
  omega
theorem KInv.stop {U Y a b d q r : Nat} (hY : Y = a * 4294967296 + b) (hYp : 0 < Y) (h : KInv U Y a d q r) (hc : q * b ≤ 4294967296 * r + d) : q = (U * 4294967296 + d) / Y := by
  obtain ⟨h1, h2⟩ := h
  refine Nat.le_antisymm ?_ h2
  rw [Nat.le_div_iff_mul_le hYp, hY, Nat.mul_add, ← Nat.mul_assoc]
  generalize q * a = m at h1 ⊢
  generalize q * b = k at hc ⊢
  omega
theorem KInv.broke {U Y a b d q r : Nat} (hY : Y = a * 4294967296 + b) (hU : U < Y) (hb : b < 4294967296) (ha : 0 < a) (h : KInv U Y a d q r) (hr : 4294967296 ≤ r) : q = (U * 4294967296 + d) / Y := by
  refine h.stop hY (by omega) ?_
  obtain ⟨h1, _⟩ := h
  have hq : q < 4294967296 := by
    have h3 : q * a < 4294967296 * a := by rw [Nat.mul_comm 4294967296 a]; omega
    exact Nat.lt_of_mul_lt_mul_right h3
  have h4 : q * b ≤ 4294967296 * b := Nat.mul_le_mul_right _ (by omega)
  have h5 : 4294967296 * b ≤ 4294967296 * 4294967295 := Nat.mul_le_mul_left _ (by omega)
  omega
theorem KInv.bound {U Y a d q r : Nat} (h : KInv U Y a d q r) (hU : U < 18446744073709551616) (ha : 2147483648 ≤ a) : q * a ≤ U ∧ q < 8589934592 := by
  obtain ⟨h1, _⟩ := h
  refine ⟨by omega, ?_⟩
  have h2 : q * 2147483648 ≤ q * a := Nat.mul_le_mul_left _ ha
  omega
theorem uwrap_nat (x : Int) (n : Nat) (h : x % 18446744073709551616 = (n : Int)) : IntKind.u64.wrap x = (n : Int) := by rw [IntKind.wrap_u64]; exact h
theorem uwrap_mul (p q : Nat) (h : p * q < 18446744073709551616) : IntKind.u64.wrap ((p : Int) * (q : Int)) = ((p * q : Nat) : Int) := uwrap_nat _ _ (by rw [← Int.natCast_mul]; omega)
theorem uwrap_div (p q : Nat) (h : p < 18446744073709551616) : IntKind.u64.wrap ((p : Int) / (q : Int)) = ((p / q : Nat) : Int) := uwrap_nat _ _ (by
  have h2 := Nat.div_le_self p q
  rw [← Int.natCast_ediv]
  generalize p / q = m at h2 ⊢
  omega)
theorem uwrap_sub (p q : Nat) (h : q ≤ p) (hp : p < 18446744073709551616) : IntKind.u64.wrap ((p : Int) - (q : Int)) = ((p - q : Nat) : Int) := uwrap_nat _ _ (by omega)
/-- What is left behind a half word's quotient, reckoned round. -/
theorem left_over (U Y d : Nat) (hY : 0 < Y) (hY2 : Y < 18446744073709551616) :
    IntKind.u64.wrap (IntKind.u64.wrap (IntKind.u64.wrap ((U : Int) * 4294967296) + (d : Int)) - IntKind.u64.wrap ((((U * 4294967296 + d) / Y : Nat) : Int) * (Y : Int))) = (((U * 4294967296 + d) % Y : Nat) : Int) := by
  have h1 := Nat.div_add_mod' (U * 4294967296 + d) Y
  have h2 := Nat.mod_lt (U * 4294967296 + d) hY
  simp only [IntKind.wrap_u64]
  rw [← Int.natCast_mul]
  generalize (U * 4294967296 + d) / Y * Y = m at h1 ⊢
  generalize (U * 4294967296 + d) % Y = r at h1 h2 ⊢
  omega
theorem qb_lt (q b : Nat) (hq : q < 4294967296) (hb : b < 4294967296) : q * b < 18446744073709551616 := by
  have h4 : q * b ≤ 4294967295 * 4294967295 := Nat.mul_le_mul (by omega) (by omega)
  omega
set_option maxRecDepth 100000 in
set_option maxHeartbeats 8000000 in
theorem div64_high (hi lo y s Y U L a b d0 d1 Q V Q2 W : Nat) (hh : 0 < hi) (hhy : hi < y) (hl : lo < 18446744073709551616) (hy : y < 18446744073709551616) (hs : s < 64) (hls : ∀ w, Calls Try.prog 34 #[.int .u64 y] w fun e w' => e = .returned (.int .i64 (s : Int)) ∧ w' = w)
    (f1 : IntKind.u64.wrap ((y : Int) * 2 ^ s) = (Y : Int)) (f2 : bits .or .u64 (IntKind.u64.wrap ((hi : Int) * 2 ^ s)) ((lo : Int) / 2 ^ (64 - s)) = (U : Int)) (f3 : IntKind.u64.wrap ((lo : Int) * 2 ^ s) = (L : Int))
    (f4 : bits .and .u64 (Y : Int) 4294967295 = (b : Int)) (f5 : bits .and .u64 (L : Int) 4294967295 = (d0 : Int)) (f6 : (Y : Int) / 4294967296 = (a : Int)) (f7 : (L : Int) / 4294967296 = (d1 : Int))
    (ha : 2147483648 ≤ a) (ha2 : a < 4294967296) (hb : b < 4294967296) (hdd1 : d1 < 4294967296) (hdd0 : d0 < 4294967296) (HYe : Hid (Y = a * 4294967296 + b)) (hUY : U < Y) (hY : Y < 18446744073709551616)
    (HQ : Hid ((U * 4294967296 + d1) / Y = Q)) (HV : Hid ((U * 4294967296 + d1) % Y = V)) (HQ2 : Hid ((V * 4294967296 + d0) / Y = Q2)) (HW : Hid ((V * 4294967296 + d0) % Y = W)) (w : World) :
    Calls Try.prog 22 #[.int .u64 hi, .int .u64 lo, .int .u64 y] w fun e w' => e = .returned (.tuple #[.int .u64 ((Q * 4294967296 + Q2 : Nat) : Int), .int .u64 ((W : Int) / 2 ^ s)]) ∧ w' = w := by
  have h1 : ((y : Int) == 0) = false := by simp; omega
  have h2 : ¬ (y : Int) ≤ (hi : Int) := by omega
  have h3 : ((hi : Int) == 0) = false := by simp; omega
  have h4 : ¬ (a : Int) = 0 := by omega
  have hVY : V < Y := by rw [← HV.out]; exact Nat.mod_lt _ (by omega)
  have hQl : Q < 4294967296 := by
    rw [← HQ.out, Nat.div_lt_iff_lt_mul (by omega)]
    have : (U + 1) * 4294967296 ≤ Y * 4294967296 := Nat.mul_le_mul_right _ hUY
    omega
  have hQ2l : Q2 < 4294967296 := by
    rw [← HQ2.out, Nat.div_lt_iff_lt_mul (by omega)]
    have : (V + 1) * 4294967296 ≤ Y * 4294967296 := Nat.mul_le_mul_right _ hVY
    omega
  have l1 := left_over U Y d1 (by omega) hY
  rw [HQ.out, HV.out] at l1
  have l2 := left_over V Y d0 (by omega) hY
  rw [HQ2.out, HW.out] at l2
  have k0 := KInv.start U Y a b d1 HYe.out (by omega) hdd1
  have hk1 : Hid (KInv U Y a d1 (U / a) (U - U / a * a)) := k0
  have g11 : IntKind.u64.wrap ((U : Int) / (a : Int)) = ((U / a : Nat) : Int) := uwrap_div U a (by omega)
  have g21 : IntKind.u64.wrap (((U / a : Nat) : Int) * (a : Int)) = ((U / a * a : Nat) : Int) := uwrap_mul _ _ (by have := Nat.div_mul_le_self U a; omega)
  have g31 : IntKind.u64.wrap ((U : Int) - ((U / a * a : Nat) : Int)) = ((U - U / a * a : Nat) : Int) := uwrap_sub _ _ (Nat.div_mul_le_self U a) (by omega)
  have hr1 : U - U / a * a < 4294967296 := by have := Nat.div_add_mod' U a; have := Nat.mod_lt U (show 0 < a by omega); omega
  have hb1 := (k0.bound (by omega) ha).2
  generalize U / a = q1 at hk1 g11 g21 g31 hr1 hb1 k0
  generalize q1 * a = p1 at hk1 g21 g31 hr1 k0
  generalize U - p1 = r1 at hk1 g31 hr1 k0
  clear k0
  have k0 := KInv.start V Y a b d0 HYe.out (by omega) hdd0
  have hk2 : Hid (KInv V Y a d0 (V / a) (V - V / a * a)) := k0
  have g12 : IntKind.u64.wrap ((V : Int) / (a : Int)) = ((V / a : Nat) : Int) := uwrap_div V a (by omega)
  have g22 : IntKind.u64.wrap (((V / a : Nat) : Int) * (a : Int)) = ((V / a * a : Nat) : Int) := uwrap_mul _ _ (by have := Nat.div_mul_le_self V a; omega)
  have g32 : IntKind.u64.wrap ((V : Int) - ((V / a * a : Nat) : Int)) = ((V - V / a * a : Nat) : Int) := uwrap_sub _ _ (Nat.div_mul_le_self V a) (by omega)
  have hr2 : V - V / a * a < 4294967296 := by have := Nat.div_add_mod' V a; have := Nat.mod_lt V (show 0 < a by omega); omega
  have hb2 := (k0.bound (by omega) ha).2
  generalize V / a = q2 at hk2 g12 g22 g32 hr2 hb2 k0
  generalize q2 * a = p2 at hk2 g22 g32 hr2 k0
  generalize V - p2 = r2 at hk2 g32 hr2 k0
  clear k0
  clear HV HW
  go_enter Try.func22, Try.ntmps22
  go_wp2_with (go_at_call 34; with_reducible refine (hls _).mono ?_; rintro e w' ⟨rfl, rfl⟩)
  go_loop [15, 16] (fun x y => ∃ (q r : Nat), x = .int .u64 q ∧ y = .int .u64 r ∧ r < 4294967296 ∧ q < 8589934592 ∧ Hid (KInv U Y a d1 q r)) (fun x _ => (intOf x).toNat)
  case atStart => exact ⟨_, _, rfl, rfl, hr1, hb1, hk1⟩
  case round =>
    obtain ⟨q, r, rfl, rfl, hr, hq, hK⟩ := hrel
    by_cases hc : 4294967296 ≤ q ∨ 4294967296 * r + d1 < q * b
    · obtain ⟨hq1, hn⟩ := hK.out.next HYe.out hUY hdd1 hc
      have HN : Hid (KInv U Y a d1 (q - 1) (r + a)) := hn
      have HE1 : Hid (((q : Int) - 1) = ((q - 1 : Nat) : Int)) := by show ((q : Int) - 1) = ((q - 1 : Nat) : Int); omega
      clear hn
      by_cases hbk : 4294967296 ≤ r + a
      · have e2 : ((q : Int) - 1) = (Q : Int) := by
          have hq' := HN.out.broke HYe.out hUY hb (by omega) hbk
          rw [HQ.out] at hq'
          omega
        have n3 : (4294967296 : Int) ≤ (r : Int) + (a : Int) := by omega
        clear hbk HE1 HN hK
        by_cases hbig : 4294967296 ≤ q
        · have n2 : (4294967296 : Int) ≤ (q : Int) := by omega
          clear hc hbig
          go_wp2
          go_loop [18, 16] (fun x y => ∃ (q r : Nat), x = .int .u64 q ∧ y = .int .u64 r ∧ r < 4294967296 ∧ q < 8589934592 ∧ Hid (KInv V Y a d0 q r)) (fun x _ => (intOf x).toNat)
          case atStart => exact ⟨_, _, rfl, rfl, hr2, hb2, hk2⟩
          case round =>
            obtain ⟨q, r, rfl, rfl, hr, hq, hK⟩ := hrel
            by_cases hc : 4294967296 ≤ q ∨ 4294967296 * r + d0 < q * b
            · obtain ⟨hq1, hn⟩ := hK.out.next HYe.out hVY hdd0 hc
              have HN : Hid (KInv V Y a d0 (q - 1) (r + a)) := hn
              have HE1 : Hid (((q : Int) - 1) = ((q - 1 : Nat) : Int)) := by show ((q : Int) - 1) = ((q - 1 : Nat) : Int); omega
              clear hn
              by_cases hbk : 4294967296 ≤ r + a
              · have e2 : ((q : Int) - 1) = (Q2 : Int) := by
                  have hq' := HN.out.broke HYe.out hVY hb (by omega) hbk
                  rw [HQ2.out] at hq'
                  omega
                have n3 : (4294967296 : Int) ≤ (r : Int) + (a : Int) := by omega
                clear hbk HE1 HN hK
                by_cases hbig : 4294967296 ≤ q
                · have n2 : (4294967296 : Int) ≤ (q : Int) := by omega
                  clear hc hbig
                  go_wp2
                  go_ret2
                  exact ⟨ret_two (by omega) rfl, rfl⟩
                · have hm : IntKind.u64.wrap ((q : Int) * (b : Int)) = ((q * b : Nat) : Int) := uwrap_mul q b (qb_lt q b (by omega) hb)
                  obtain ⟨M, hM⟩ : ∃ M : Nat, Hid (q * b = M) := ⟨_, rfl⟩
                  rw [hM.out] at hm hc
                  have n1 : 4294967296 * (r : Int) + (d0 : Int) < (M : Int) := by omega
                  have n2 : ¬ (4294967296 : Int) ≤ (q : Int) := by omega
                  clear hbig
                  clear hc hM
                  go_wp2
                  go_ret2
                  exact ⟨ret_two (by omega) rfl, rfl⟩
              · have n3 : ¬ (4294967296 : Int) ≤ (r : Int) + (a : Int) := by omega
                have n4 : r + a < 4294967296 := by omega
                clear hbk hK
                by_cases hbig : 4294967296 ≤ q
                · have n2 : (4294967296 : Int) ≤ (q : Int) := by omega
                  clear hc hbig
                  go_wp2
                  go_round
                  case rel => exact ⟨q - 1, r + a, by rw [← HE1.out], by go_num, n4, by omega, HN⟩
                  case measure => simp [intOf]; omega
                · have hm : IntKind.u64.wrap ((q : Int) * (b : Int)) = ((q * b : Nat) : Int) := uwrap_mul q b (qb_lt q b (by omega) hb)
                  obtain ⟨M, hM⟩ : ∃ M : Nat, Hid (q * b = M) := ⟨_, rfl⟩
                  rw [hM.out] at hm hc
                  have n1 : 4294967296 * (r : Int) + (d0 : Int) < (M : Int) := by omega
                  have n2 : ¬ (4294967296 : Int) ≤ (q : Int) := by omega
                  clear hbig
                  clear hc hM
                  go_wp2
                  go_round
                  case rel => exact ⟨q - 1, r + a, by rw [← HE1.out], by go_num, n4, by omega, HN⟩
                  case measure => simp [intOf]; omega
            · have hq' : Q2 = q := by rw [← HQ2.out]; exact (hK.out.stop HYe.out (by omega) (by omega)).symm
              have hbig : ¬ 4294967296 ≤ q := by omega
              have hm : IntKind.u64.wrap ((q : Int) * (b : Int)) = ((q * b : Nat) : Int) := uwrap_mul q b (qb_lt q b (by omega) hb)
              obtain ⟨M, hM⟩ : ∃ M : Nat, Hid (q * b = M) := ⟨_, rfl⟩
              rw [hM.out] at hm hc
              have n1 : ¬ 4294967296 * (r : Int) + (d0 : Int) < (M : Int) := by omega
              have n2 : ¬ (4294967296 : Int) ≤ (q : Int) := by omega
              subst hq'
              clear hbig hc hK hM
              go_wp2
              go_ret2
              exact ⟨ret_two (by omega) rfl, rfl⟩
        · have hm : IntKind.u64.wrap ((q : Int) * (b : Int)) = ((q * b : Nat) : Int) := uwrap_mul q b (qb_lt q b (by omega) hb)
          obtain ⟨M, hM⟩ : ∃ M : Nat, Hid (q * b = M) := ⟨_, rfl⟩
          rw [hM.out] at hm hc
          have n1 : 4294967296 * (r : Int) + (d1 : Int) < (M : Int) := by omega
          have n2 : ¬ (4294967296 : Int) ≤ (q : Int) := by omega
          clear hbig
          clear hc hM
          go_wp2
          go_loop [18, 16] (fun x y => ∃ (q r : Nat), x = .int .u64 q ∧ y = .int .u64 r ∧ r < 4294967296 ∧ q < 8589934592 ∧ Hid (KInv V Y a d0 q r)) (fun x _ => (intOf x).toNat)
          case atStart => exact ⟨_, _, rfl, rfl, hr2, hb2, hk2⟩
          case round =>
            obtain ⟨q, r, rfl, rfl, hr, hq, hK⟩ := hrel
            by_cases hc : 4294967296 ≤ q ∨ 4294967296 * r + d0 < q * b
            · obtain ⟨hq1, hn⟩ := hK.out.next HYe.out hVY hdd0 hc
              have HN : Hid (KInv V Y a d0 (q - 1) (r + a)) := hn
              have HE1 : Hid (((q : Int) - 1) = ((q - 1 : Nat) : Int)) := by show ((q : Int) - 1) = ((q - 1 : Nat) : Int); omega
              clear hn
              by_cases hbk : 4294967296 ≤ r + a
              · have e2 : ((q : Int) - 1) = (Q2 : Int) := by
                  have hq' := HN.out.broke HYe.out hVY hb (by omega) hbk
                  rw [HQ2.out] at hq'
                  omega
                have n3 : (4294967296 : Int) ≤ (r : Int) + (a : Int) := by omega
                clear hbk HE1 HN hK
                by_cases hbig : 4294967296 ≤ q
                · have n2 : (4294967296 : Int) ≤ (q : Int) := by omega
                  clear hc hbig
                  go_wp2
                  go_ret2
                  exact ⟨ret_two (by omega) rfl, rfl⟩
                · have hm : IntKind.u64.wrap ((q : Int) * (b : Int)) = ((q * b : Nat) : Int) := uwrap_mul q b (qb_lt q b (by omega) hb)
                  obtain ⟨M, hM⟩ : ∃ M : Nat, Hid (q * b = M) := ⟨_, rfl⟩
                  rw [hM.out] at hm hc
                  have n1 : 4294967296 * (r : Int) + (d0 : Int) < (M : Int) := by omega
                  have n2 : ¬ (4294967296 : Int) ≤ (q : Int) := by omega
                  clear hbig
                  clear hc hM
                  go_wp2
                  go_ret2
                  exact ⟨ret_two (by omega) rfl, rfl⟩
              · have n3 : ¬ (4294967296 : Int) ≤ (r : Int) + (a : Int) := by omega
                have n4 : r + a < 4294967296 := by omega
                clear hbk hK
                by_cases hbig : 4294967296 ≤ q
                · have n2 : (4294967296 : Int) ≤ (q : Int) := by omega
                  clear hc hbig
                  go_wp2
                  go_round
                  case rel => exact ⟨q - 1, r + a, by rw [← HE1.out], by go_num, n4, by omega, HN⟩
                  case measure => simp [intOf]; omega
                · have hm : IntKind.u64.wrap ((q : Int) * (b : Int)) = ((q * b : Nat) : Int) := uwrap_mul q b (qb_lt q b (by omega) hb)
                  obtain ⟨M, hM⟩ : ∃ M : Nat, Hid (q * b = M) := ⟨_, rfl⟩
                  rw [hM.out] at hm hc
                  have n1 : 4294967296 * (r : Int) + (d0 : Int) < (M : Int) := by omega
                  have n2 : ¬ (4294967296 : Int) ≤ (q : Int) := by omega
                  clear hbig
                  clear hc hM
                  go_wp2
                  go_round
                  case rel => exact ⟨q - 1, r + a, by rw [← HE1.out], by go_num, n4, by omega, HN⟩
                  case measure => simp [intOf]; omega
            · have hq' : Q2 = q := by rw [← HQ2.out]; exact (hK.out.stop HYe.out (by omega) (by omega)).symm
              have hbig : ¬ 4294967296 ≤ q := by omega
              have hm : IntKind.u64.wrap ((q : Int) * (b : Int)) = ((q * b : Nat) : Int) := uwrap_mul q b (qb_lt q b (by omega) hb)
              obtain ⟨M, hM⟩ : ∃ M : Nat, Hid (q * b = M) := ⟨_, rfl⟩
              rw [hM.out] at hm hc
              have n1 : ¬ 4294967296 * (r : Int) + (d0 : Int) < (M : Int) := by omega
              have n2 : ¬ (4294967296 : Int) ≤ (q : Int) := by omega
              subst hq'
              clear hbig hc hK hM
              go_wp2
              go_ret2
              exact ⟨ret_two (by omega) rfl, rfl⟩
      · have n3 : ¬ (4294967296 : Int) ≤ (r : Int) + (a : Int) := by omega
        have n4 : r + a < 4294967296 := by omega
        clear hbk hK
        by_cases hbig : 4294967296 ≤ q
        · have n2 : (4294967296 : Int) ≤ (q : Int) := by omega
          clear hc hbig
          go_wp2
          go_round
          case rel => exact ⟨q - 1, r + a, by rw [← HE1.out], by go_num, n4, by omega, HN⟩
          case measure => simp [intOf]; omega
        · have hm : IntKind.u64.wrap ((q : Int) * (b : Int)) = ((q * b : Nat) : Int) := uwrap_mul q b (qb_lt q b (by omega) hb)
          obtain ⟨M, hM⟩ : ∃ M : Nat, Hid (q * b = M) := ⟨_, rfl⟩
          rw [hM.out] at hm hc
          have n1 : 4294967296 * (r : Int) + (d1 : Int) < (M : Int) := by omega
          have n2 : ¬ (4294967296 : Int) ≤ (q : Int) := by omega
          clear hbig
          clear hc hM
          go_wp2
          go_round
          case rel => exact ⟨q - 1, r + a, by rw [← HE1.out], by go_num, n4, by omega, HN⟩
          case measure => simp [intOf]; omega
    · have hq' : Q = q := by rw [← HQ.out]; exact (hK.out.stop HYe.out (by omega) (by omega)).symm
      have hbig : ¬ 4294967296 ≤ q := by omega
      have hm : IntKind.u64.wrap ((q : Int) * (b : Int)) = ((q * b : Nat) : Int) := uwrap_mul q b (qb_lt q b (by omega) hb)
      obtain ⟨M, hM⟩ : ∃ M : Nat, Hid (q * b = M) := ⟨_, rfl⟩
      rw [hM.out] at hm hc
      have n1 : ¬ 4294967296 * (r : Int) + (d1 : Int) < (M : Int) := by omega
      have n2 : ¬ (4294967296 : Int) ≤ (q : Int) := by omega
      subst hq'
      clear hbig hc hK hM
      go_wp2
      go_loop [18, 16] (fun x y => ∃ (q r : Nat), x = .int .u64 q ∧ y = .int .u64 r ∧ r < 4294967296 ∧ q < 8589934592 ∧ Hid (KInv V Y a d0 q r)) (fun x _ => (intOf x).toNat)
      case atStart => exact ⟨_, _, rfl, rfl, hr2, hb2, hk2⟩
      case round =>
        obtain ⟨q, r, rfl, rfl, hr, hq, hK⟩ := hrel
        by_cases hc : 4294967296 ≤ q ∨ 4294967296 * r + d0 < q * b
        · obtain ⟨hq1, hn⟩ := hK.out.next HYe.out hVY hdd0 hc
          have HN : Hid (KInv V Y a d0 (q - 1) (r + a)) := hn
          have HE1 : Hid (((q : Int) - 1) = ((q - 1 : Nat) : Int)) := by show ((q : Int) - 1) = ((q - 1 : Nat) : Int); omega
          clear hn
          by_cases hbk : 4294967296 ≤ r + a
          · have e2 : ((q : Int) - 1) = (Q2 : Int) := by
              have hq' := HN.out.broke HYe.out hVY hb (by omega) hbk
              rw [HQ2.out] at hq'
              omega
            have n3 : (4294967296 : Int) ≤ (r : Int) + (a : Int) := by omega
            clear hbk HE1 HN hK
            by_cases hbig : 4294967296 ≤ q
            · have n2 : (4294967296 : Int) ≤ (q : Int) := by omega
              clear hc hbig
              go_wp2
              go_ret2
              exact ⟨ret_two (by omega) rfl, rfl⟩
            · have hm : IntKind.u64.wrap ((q : Int) * (b : Int)) = ((q * b : Nat) : Int) := uwrap_mul q b (qb_lt q b (by omega) hb)
              obtain ⟨M, hM⟩ : ∃ M : Nat, Hid (q * b = M) := ⟨_, rfl⟩
              rw [hM.out] at hm hc
              have n1 : 4294967296 * (r : Int) + (d0 : Int) < (M : Int) := by omega
              have n2 : ¬ (4294967296 : Int) ≤ (q : Int) := by omega
              clear hbig
              clear hc hM
              go_wp2
              go_ret2
              exact ⟨ret_two (by omega) rfl, rfl⟩
          · have n3 : ¬ (4294967296 : Int) ≤ (r : Int) + (a : Int) := by omega
            have n4 : r + a < 4294967296 := by omega
            clear hbk hK
            by_cases hbig : 4294967296 ≤ q
            · have n2 : (4294967296 : Int) ≤ (q : Int) := by omega
              clear hc hbig
              go_wp2
              go_round
              case rel => exact ⟨q - 1, r + a, by rw [← HE1.out], by go_num, n4, by omega, HN⟩
              case measure => simp [intOf]; omega
            · have hm : IntKind.u64.wrap ((q : Int) * (b : Int)) = ((q * b : Nat) : Int) := uwrap_mul q b (qb_lt q b (by omega) hb)
              obtain ⟨M, hM⟩ : ∃ M : Nat, Hid (q * b = M) := ⟨_, rfl⟩
              rw [hM.out] at hm hc
              have n1 : 4294967296 * (r : Int) + (d0 : Int) < (M : Int) := by omega
              have n2 : ¬ (4294967296 : Int) ≤ (q : Int) := by omega
              clear hbig
              clear hc hM
              go_wp2
              go_round
              case rel => exact ⟨q - 1, r + a, by rw [← HE1.out], by go_num, n4, by omega, HN⟩
              case measure => simp [intOf]; omega
        · have hq' : Q2 = q := by rw [← HQ2.out]; exact (hK.out.stop HYe.out (by omega) (by omega)).symm
          have hbig : ¬ 4294967296 ≤ q := by omega
          have hm : IntKind.u64.wrap ((q : Int) * (b : Int)) = ((q * b : Nat) : Int) := uwrap_mul q b (qb_lt q b (by omega) hb)
          obtain ⟨M, hM⟩ : ∃ M : Nat, Hid (q * b = M) := ⟨_, rfl⟩
          rw [hM.out] at hm hc
          have n1 : ¬ 4294967296 * (r : Int) + (d0 : Int) < (M : Int) := by omega
          have n2 : ¬ (4294967296 : Int) ≤ (q : Int) := by omega
          subst hq'
          clear hbig hc hK hM
          go_wp2
          go_ret2
          exact ⟨ret_two (by omega) rfl, rfl⟩
end Go.Proofs.Ytjlhiagkkpjehac.word
