/- The contracts of the document's own two, held and Apply: what package word's Apply makes. -/
import Derived.Test.YtjcmhaaohdmjpaaDoorM15
import Derived.Test.YtjcmhaaohdmjpaaDoorM16
namespace Go.Proofs.YtjcmhaaohdmjpaaDoor.word
open Go.ChangeShapes Go.WideShapes Go.ChangeAt Go.RowKit
open wrapped
set_option linter.unusedVariables false
abbrev two_ (n a b : Int) (w : World) (x y : Int) : Prop := Calls Tryd.prog 58 #[.int .i64 n, .int .i64 a, .int .i64 b] w fun e w' => e = .returned (.tuple #[.int .i64 x, .int .i64 y]) ∧ w' = w
theorem reftwo16 (a b : Int) (w : World) : two_ 16 a b w (wrap64 (a + b)) 0 := by
  go_enter Tryd.func58, Tryd.ntmps58
  go_wp2
  go_ret2
  exact ⟨rfl, rfl⟩
theorem reftwo17 (a b : Int) (w : World) : two_ 17 a b w (wrap64 (a + wrap64 (-b))) 0 := by
  rw [wrap64_addr]
  go_enter Tryd.func58, Tryd.ntmps58
  go_wp2
  go_ret2
  exact ⟨ret_two (by rw [Int.sub_eq_add_neg]) rfl, rfl⟩
theorem reftwo18 (a b : Int) (la : -9223372036854775808 ≤ a) (ha : a ≤ 9223372036854775807) (lb : -9223372036854775808 ≤ b) (hb : b ≤ 9223372036854775807) (w : World) : two_ 18 a b w (wrap64 (a * b)) 0 := by
  have c := refwide_any a b la ha lb hb
  have e : Hid (wrap64 (a * b % 18446744073709551616) = wrap64 (a * b)) := by
    show wrap64 (a * b % 18446744073709551616) = wrap64 (a * b)
    generalize a * b = p
    exact wrap64_of _ _ (-(p / 18446744073709551616)) (by omega)
  obtain ⟨H, hH⟩ : ∃ H, Hid (a * b / 18446744073709551616 = H) := ⟨_, rfl⟩
  obtain ⟨L, hL⟩ : ∃ L, Hid (a * b % 18446744073709551616 = L) := ⟨_, rfl⟩
  have hL0 : 0 ≤ L ∧ L < 18446744073709551616 := by rw [← hL.out]; omega
  rw [hH.out, hL.out] at c
  rw [← e.out, hL.out]
  clear e hL hH
  go_enter Tryd.func58, Tryd.ntmps58
  go_wp2_with (go_at_call 79; with_reducible refine (c _).mono ?_; rintro e w' ⟨rfl, hw⟩; replace hw := hw.symm; subst hw)
  go_ret2
  exact ⟨ret_two (by first | rfl | (rw [IntKind.wrap_i64]; rfl)) rfl, rfl⟩
theorem tdiv_neg_one (a : Int) : a.tdiv (-1) = -a := by rw [Int.tdiv_neg, Int.tdiv_one]
theorem reftwo19z (a b : Int) (w : World) (h : b = 0) : two_ 19 a b w 0 20 := by
  subst h
  go_enter Tryd.func58, Tryd.ntmps58
  go_wp2
  go_ret2
  exact ⟨rfl, rfl⟩
theorem reftwo20z (a b : Int) (w : World) (h : b = 0) : two_ 20 a b w 0 20 := by
  subst h
  go_enter Tryd.func58, Tryd.ntmps58
  go_wp2
  go_ret2
  exact ⟨rfl, rfl⟩
theorem reftwo19 (a b : Int) (la : -9223372036854775808 ≤ a) (ha : a ≤ 9223372036854775807) (lb : -9223372036854775808 ≤ b) (hb : b ≤ 9223372036854775807) (w : World) (h : (b == 0) = false) (h2 : ¬ b = 0) : two_ 19 a b w (wrap64 (a.tdiv b)) 0 := by
  by_cases h1 : b = -1
  · subst h1
    rw [tdiv_neg_one]
    go_enter Tryd.func58, Tryd.ntmps58
    go_wp2
    go_ret2
    exact ⟨rfl, rfl⟩
  · have h3 : (b == -1) = false := by simpa using h1
    go_enter Tryd.func58, Tryd.ntmps58
    go_wp2
    go_ret2
    exact ⟨rfl, rfl⟩
theorem tmod_word (a b : Int) (la : -9223372036854775808 ≤ a) (ha : a ≤ 9223372036854775807) (lb : -9223372036854775808 ≤ b) (hb : b ≤ 9223372036854775807) (h : ¬ b = 0) : wrap64 (a - wrap64 (wrap64 (a.tdiv b) * b)) = a.tmod b := by
  have e : wrap64 (a - wrap64 (wrap64 (a.tdiv b) * b)) = wrap64 (a - a.tdiv b * b) := by
    rw [wrap64_mull, Int.sub_eq_add_neg, Int.sub_eq_add_neg]
    generalize a.tdiv b * b = p
    have : wrap64 (a + -wrap64 p) = wrap64 (a + -p) := by
      obtain ⟨k, hk⟩ := wrap64_ex p
      exact wrap64_of _ _ (-k) (by rw [hk]; omega)
    exact this
  have e2 : a - a.tdiv b * b = a.tmod b := by rw [Int.tmod_def, Int.mul_comm]
  rw [e, e2]
  have key : ∀ c : Int, 0 < c → -c < a.tmod c ∧ a.tmod c < c := fun c hc => ⟨by have := Int.tmod_lt_of_pos (-a) hc; rw [Int.neg_tmod] at this; omega, Int.tmod_lt_of_pos a hc⟩
  rcases (by omega : 0 < b ∨ b < 0) with hp | hp
  · have := key b hp
    exact wrap64_id _ (by omega) (by omega)
  · have h3 := key (-b) (by omega)
    rw [Int.tmod_neg] at h3
    exact wrap64_id _ (by omega) (by omega)
theorem reftwo20 (a b : Int) (la : -9223372036854775808 ≤ a) (ha : a ≤ 9223372036854775807) (lb : -9223372036854775808 ≤ b) (hb : b ≤ 9223372036854775807) (w : World) (h : (b == 0) = false) (h2 : ¬ b = 0) : two_ 20 a b w (a.tmod b) 0 := by
  by_cases h1 : b = -1
  · subst h1
    rw [show a.tmod (-1) = 0 from by rw [Int.tmod_neg, Int.tmod_one]]
    go_enter Tryd.func58, Tryd.ntmps58
    go_wp2
    go_ret2
    exact ⟨rfl, rfl⟩
  · have h3 : (b == -1) = false := by simpa using h1
    rw [← tmod_word a b la ha lb hb h2]
    go_enter Tryd.func58, Tryd.ntmps58
    go_wp2
    go_ret2
    exact ⟨rfl, rfl⟩
theorem reftwo21 (a b : Int) (la : -9223372036854775808 ≤ a) (ha : a ≤ 9223372036854775807) (lb : -9223372036854775808 ≤ b) (hb : b ≤ 9223372036854775807) (w : World) : two_ 21 a b w (bits .and .i64 a b) 0 := by
  have c := refbits21 a b la ha lb hb
  generalize bits .and .i64 a b = X at *
  go_enter Tryd.func58, Tryd.ntmps58
  go_wp2_with (go_at_call 80; with_reducible refine (c _).mono ?_; rintro e w' ⟨rfl, hw⟩; replace hw := hw.symm; subst hw)
  go_ret2
  exact ⟨rfl, rfl⟩
theorem reftwo22 (a b : Int) (la : -9223372036854775808 ≤ a) (ha : a ≤ 9223372036854775807) (lb : -9223372036854775808 ≤ b) (hb : b ≤ 9223372036854775807) (w : World) : two_ 22 a b w (bits .or .i64 a b) 0 := by
  have c := refbits22 a b la ha lb hb
  generalize bits .or .i64 a b = X at *
  go_enter Tryd.func58, Tryd.ntmps58
  go_wp2_with (go_at_call 80; with_reducible refine (c _).mono ?_; rintro e w' ⟨rfl, hw⟩; replace hw := hw.symm; subst hw)
  go_ret2
  exact ⟨rfl, rfl⟩
theorem reftwo23 (a b : Int) (la : -9223372036854775808 ≤ a) (ha : a ≤ 9223372036854775807) (lb : -9223372036854775808 ≤ b) (hb : b ≤ 9223372036854775807) (w : World) : two_ 23 a b w (bits .xor .i64 a b) 0 := by
  have c := refbits23 a b la ha lb hb
  generalize bits .xor .i64 a b = X at *
  go_enter Tryd.func58, Tryd.ntmps58
  go_wp2_with (go_at_call 80; with_reducible refine (c _).mono ?_; rintro e w' ⟨rfl, hw⟩; replace hw := hw.symm; subst hw)
  go_ret2
  exact ⟨rfl, rfl⟩
theorem reftwo24 (a b : Int) (la : -9223372036854775808 ≤ a) (ha : a ≤ 9223372036854775807) (lb : -9223372036854775808 ≤ b) (hb : b ≤ 9223372036854775807) (w : World) : two_ 24 a b w (bits .and .i64 a (bits .xor .i64 (-1) b)) 0 := by
  have c := refbits24 a b la ha lb hb
  generalize bits .and .i64 a (bits .xor .i64 (-1) b) = X at *
  go_enter Tryd.func58, Tryd.ntmps58
  go_wp2_with (go_at_call 80; with_reducible refine (c _).mono ?_; rintro e w' ⟨rfl, hw⟩; replace hw := hw.symm; subst hw)
  go_ret2
  exact ⟨rfl, rfl⟩
theorem reftwo25n (a b : Int) (w : World) (h : b < 0) : two_ 25 a b w 0 21 := by
  go_enter Tryd.func58, Tryd.ntmps58
  go_wp2
  go_ret2
  exact ⟨rfl, rfl⟩
theorem reftwo26n (a b : Int) (w : World) (h : b < 0) : two_ 26 a b w 0 21 := by
  go_enter Tryd.func58, Tryd.ntmps58
  go_wp2
  go_ret2
  exact ⟨rfl, rfl⟩
theorem reftwo27n (a b : Int) (w : World) (h : b < 0) : two_ 27 a b w 0 21 := by
  go_enter Tryd.func58, Tryd.ntmps58
  go_wp2
  go_ret2
  exact ⟨rfl, rfl⟩
theorem reftwo25 (a b : Int) (la : -9223372036854775808 ≤ a) (ha : a ≤ 9223372036854775807) (lb : -9223372036854775808 ≤ b) (hb : b ≤ 9223372036854775807) (w : World) (h : 0 ≤ b) : two_ 25 a b w (wrap64 (a * 2 ^ min b.toNat 64)) 0 := by
  have c := refshifted_any a (((min b.toNat 64 : Nat) : Int)) 0 (wrap64 (a * 2 ^ min b.toNat 64)) (by omega) (by omega) (by decide) (by decide) (shl_word a _ (Nat.min_le_right _ _))
  have cf := reffew_any b h _ rfl
  obtain ⟨X, hX⟩ : ∃ X, Hid (wrap64 (a * 2 ^ min b.toNat 64) = X) := ⟨_, rfl⟩
  rw [hX.out] at c ⊢
  have hS : 0 ≤ ((min b.toNat 64 : Nat) : Int) ∧ ((min b.toNat 64 : Nat) : Int) ≤ 64 := by omega
  generalize ((min b.toNat 64 : Nat) : Int) = S at *
  clear hX
  go_enter Tryd.func58, Tryd.ntmps58
  go_wp2_with (first | (go_at_call 82; with_reducible refine (cf _).mono ?_; rintro e w' ⟨rfl, hw⟩; replace hw := hw.symm; subst hw) | (go_at_call 81; with_reducible refine (c _).mono ?_; rintro e w' ⟨rfl, hw⟩; replace hw := hw.symm; subst hw))
  go_ret2
  exact ⟨rfl, rfl⟩
theorem reftwo26 (a b : Int) (la : -9223372036854775808 ≤ a) (ha : a ≤ 9223372036854775807) (lb : -9223372036854775808 ≤ b) (hb : b ≤ 9223372036854775807) (w : World) (h : 0 ≤ b) : two_ 26 a b w (a / 2 ^ min b.toNat 64) 0 := by
  have c := refshifted_any a (-((min b.toNat 64 : Nat) : Int)) (bitOf a 63) (a / 2 ^ min b.toNat 64) (by omega) (by omega) (bitOf_01 a 63).1 (bitOf_01 a 63).2 (shr_word a la ha _ (Nat.min_le_right _ _))
  have cf := reffew_any b h _ rfl
  have hb63 : ∀ w, Calls Tryd.prog 75 #[.int .i64 a, .int .i64 63] w fun e w' => e = .returned (.int .i64 (bitOf a 63)) ∧ w' = w := refbit_any a 63 (by decide)
  obtain ⟨X, hX⟩ : ∃ X, Hid (a / 2 ^ min b.toNat 64 = X) := ⟨_, rfl⟩
  rw [hX.out] at c ⊢
  have hS : 0 ≤ ((min b.toNat 64 : Nat) : Int) ∧ ((min b.toNat 64 : Nat) : Int) ≤ 64 := by omega
  generalize ((min b.toNat 64 : Nat) : Int) = S at *
  generalize bitOf a 63 = T at *
  clear hX
  go_enter Tryd.func58, Tryd.ntmps58
  go_wp2_with (first | (go_at_call 82; with_reducible refine (cf _).mono ?_; rintro e w' ⟨rfl, hw⟩; replace hw := hw.symm; subst hw) | (go_at_call 81; with_reducible refine (c _).mono ?_; rintro e w' ⟨rfl, hw⟩; replace hw := hw.symm; subst hw) | (go_at_call 75; with_reducible refine (hb63 _).mono ?_; rintro e w' ⟨rfl, hw⟩; replace hw := hw.symm; subst hw))
  go_ret2
  exact ⟨rfl, rfl⟩
theorem reftwo27 (a b : Int) (la : -9223372036854775808 ≤ a) (ha : a ≤ 9223372036854775807) (lb : -9223372036854775808 ≤ b) (hb : b ≤ 9223372036854775807) (w : World) (h : 0 ≤ b) : two_ 27 a b w (wrap64 (IntKind.u64.wrap a / 2 ^ min b.toNat 64)) 0 := by
  have c := refshifted_any a (-((min b.toNat 64 : Nat) : Int)) 0 (wrap64 (IntKind.u64.wrap a / 2 ^ min b.toNat 64)) (by omega) (by omega) (by decide) (by decide) (ushr_word a _ (Nat.min_le_right _ _))
  have cf := reffew_any b h _ rfl
  obtain ⟨X, hX⟩ : ∃ X, Hid (wrap64 (IntKind.u64.wrap a / 2 ^ min b.toNat 64) = X) := ⟨_, rfl⟩
  rw [hX.out] at c ⊢
  have hS : 0 ≤ ((min b.toNat 64 : Nat) : Int) ∧ ((min b.toNat 64 : Nat) : Int) ≤ 64 := by omega
  generalize ((min b.toNat 64 : Nat) : Int) = S at *
  clear hX
  go_enter Tryd.func58, Tryd.ntmps58
  go_wp2_with (first | (go_at_call 82; with_reducible refine (cf _).mono ?_; rintro e w' ⟨rfl, hw⟩; replace hw := hw.symm; subst hw) | (go_at_call 81; with_reducible refine (c _).mono ?_; rintro e w' ⟨rfl, hw⟩; replace hw := hw.symm; subst hw))
  go_ret2
  exact ⟨rfl, rfl⟩
/-- The bits of a, turned. -/
def vr (a : Int) (s k : Nat) : Int := bitOf a (if s ≤ k then k - s else k + 64 - s)
theorem rot_word (a : Int) (la : -9223372036854775808 ≤ a) (ha : a ≤ 9223372036854775807) (s : Nat) (hs : s < 64) : wrap64 (pb (vr a s) 64) = wrap64 (rotN (a % 18446744073709551616) s) := by
  refine pb_word _ (fun k => bitOf_01 a _) _ (by unfold wrap64; omega) (by unfold wrap64; omega) fun k hk => ?_
  rw [bitOf_wrap _ k hk, bitOf_rot _ s k (by omega) (by omega) hs hk]
  exact bitOf_mod a 64 _ (by split <;> omega)
theorem turn_at (b : Int) (k s : Nat) (hs : s = (b % 64).toNat) (hk : k < 64) : (((k : Int) - b.tmod 64).tmod 64 + 64).tmod 64 = (((if s ≤ k then k - s else k + 64 - s : Nat)) : Int) := by
  have h1 : b.tmod 64 = b % 64 ∨ b.tmod 64 = b % 64 - 64 := by
    rcases Int.le_total 0 b with h | h
    · left; rw [Int.tmod_eq_emod_of_nonneg h]
    · by_cases h0 : b % 64 = 0
      · left
        have : (64 : Int) ∣ b := Int.dvd_of_emod_eq_zero h0
        rw [Int.tmod_eq_zero_of_dvd this, h0]
      · right
        have e : b.tmod 64 = -((-b).tmod 64) := by rw [Int.neg_tmod]; omega
        rw [e, Int.tmod_eq_emod_of_nonneg (by omega)]
        omega
  have h2 : ∀ x : Int, -128 < x → x < 128 → x.tmod 64 = x % 64 ∨ x.tmod 64 = x % 64 - 64 := fun x _ _ => by
    rcases Int.le_total 0 x with h | h
    · left; rw [Int.tmod_eq_emod_of_nonneg h]
    · by_cases h0 : x % 64 = 0
      · left
        have : (64 : Int) ∣ x := Int.dvd_of_emod_eq_zero h0
        rw [Int.tmod_eq_zero_of_dvd this, h0]
      · right
        have e : x.tmod 64 = -((-x).tmod 64) := by rw [Int.neg_tmod]; omega
        rw [e, Int.tmod_eq_emod_of_nonneg (by omega)]
        omega
  have h3 := h2 ((k : Int) - b.tmod 64) (by omega) (by omega)
  generalize hy : ((k : Int) - b.tmod 64).tmod 64 = y at *
  rw [Int.tmod_eq_emod_of_nonneg (by omega : 0 ≤ y + 64)]
  split <;> omega
set_option maxHeartbeats 1000000 in
theorem reftwo28 (a b : Int) (la : -9223372036854775808 ≤ a) (ha : a ≤ 9223372036854775807) (lb : -9223372036854775808 ≤ b) (hb : b ≤ 9223372036854775807) (w : World) : two_ 28 a b w (wrap64 (rotN (a % 18446744073709551616) (b % 64).toNat)) 0 := by
  have hfin : Hid (wrap64 (pb (vr a (b % 64).toNat) 64) = wrap64 (rotN (a % 18446744073709551616) (b % 64).toNat)) := rot_word a la ha _ (by omega)
  generalize wrap64 (rotN (a % 18446744073709551616) (b % 64).toNat) = X at *
  have hat := fun k hk => turn_at b k (b % 64).toNat rfl hk
  have hs : (b % 64).toNat < 64 := by omega
  generalize (b % 64).toNat = s at *
  have hv : ∀ k, 0 ≤ vr a s k ∧ vr a s k ≤ 1 := fun k => bitOf_01 a _
  go_enter Tryd.func58, Tryd.ntmps58
  go_wp2
  go_loop [10, 11] (fun r i => ∃ (k : Nat) (x : Int), k ≤ 64 ∧ i = .int .i64 k ∧ r = .int .i64 x ∧ Hid (x = wrap64 (pb (vr a s) k))) (fun _ i => 64 - (intOf i).toNat)
  case atStart => exact ⟨0, 0, Nat.zero_le _, rfl, rfl, by show (0 : Int) = wrap64 0; simp [wrap64]⟩
  case round =>
    obtain ⟨k, x, hk, rfl, rfl, hx⟩ := hrel
    by_cases hlt : k < 64
    · have hbd := pb_bd _ hv k
      have hput := refput_as x (vr a s k) (pb (vr a s) k) k hlt hbd.1 hbd.2 (hv k).1 (hv k).2 hx.out
      have hnx : Hid (wrap64 (pb (vr a s) k + vr a s k * 2 ^ k) = wrap64 (pb (vr a s) (k + 1))) := rfl
      have hj := hat k hlt
      have ht1 : -64 < b.tmod 64 ∧ b.tmod 64 < 64 := ⟨by have := Int.tmod_lt_of_pos (-b) (b := 64) (by decide); rw [Int.neg_tmod] at this; omega, Int.tmod_lt_of_pos b (by decide)⟩
      have hbit : ∀ w, Calls Tryd.prog 75 #[.int .i64 a, .int .i64 ((wrap64 ((wrap64 ((k : Int) - b.tmod 64)).tmod 64 + 64)).tmod 64)] w fun e w' => e = .returned (.int .i64 (vr a s k)) ∧ w' = w := by
        rw [wrap64_id ((k : Int) - b.tmod 64) (by omega) (by omega)]
        have hy : -64 < ((k : Int) - b.tmod 64).tmod 64 ∧ ((k : Int) - b.tmod 64).tmod 64 < 64 := ⟨by have := Int.tmod_lt_of_pos (-((k : Int) - b.tmod 64)) (b := 64) (by decide); rw [Int.neg_tmod] at this; omega, Int.tmod_lt_of_pos _ (by decide)⟩
        rw [wrap64_id (((k : Int) - b.tmod 64).tmod 64 + 64) (by omega) (by omega), hj]
        exact refbit_any a _ (by split <;> omega)
      generalize vr a s k = V at *
      generalize wrap64 (pb (vr a s) k + V * 2 ^ k) = z at *
      clear hbd hx hj hat hv hfin ht1
      go_wp2_with (first | (go_at_call 75; with_reducible refine (hbit _).mono ?_; rintro e w' ⟨rfl, hw⟩; replace hw := hw.symm; subst hw) | (go_at_call 76; with_reducible refine (hput _).mono ?_; rintro e w' ⟨rfl, hw⟩; replace hw := hw.symm; subst hw))
      go_round
      case rel => exact ⟨k + 1, z, by omega, by go_num, rfl, hnx⟩
      case measure => simp [intOf]; omega
    · go_wp2
      go_ret2
      have : k = 64 := by omega
      subst this
      exact ⟨ret_two (hx.out.trans hfin.out) rfl, rfl⟩
end Go.Proofs.YtjcmhaaohdmjpaaDoor.word
/- The contracts of the document's own held and Apply; package word's Apply and the document's own make the same, whatever they are asked. -/
namespace Go.Proofs.YtjcmhaaohdmjpaaDoor.word
open Go.ChangeShapes Go.WideShapes Go.ChangeAt Go.RowKit
open wrapped
set_option linter.unusedVariables false
abbrev held_ (n a b : Int) (w : World) (x : Int) : Prop := Calls Tryd.prog 83 #[.int .i64 n, .int .i64 a, .int .i64 b] w fun e w' => e = .returned (.int .i64 x) ∧ w' = w
theorem xor_min (a : Int) (la : -9223372036854775808 ≤ a) (ha : a ≤ 9223372036854775807) : bits .xor .i64 a (-9223372036854775808) = if a < 0 then a + 9223372036854775808 else a - 9223372036854775808 := by
  have hX : -9223372036854775808 ≤ (if a < 0 then a + 9223372036854775808 else a - 9223372036854775808) ∧ (if a < 0 then a + 9223372036854775808 else a - 9223372036854775808) ≤ 9223372036854775807 := by split <;> omega
  have hm : ∀ k, k < 63 → bitOf (-9223372036854775808) k = 0 := fun k hk => by
    have e := bitOf_add 0 (-1) 63 k hk
    rw [show (0 : Int) + 2 ^ 63 * -1 = -9223372036854775808 from by decide] at e
    rw [e]; unfold bitOf; simp
  refine word_ext _ _ ?_ ?_ hX.1 hX.2 fun k hk => ?_
  · rw [bits_xor_eq]; exact (toInt_bd _).1
  · rw [bits_xor_eq]; exact (toInt_bd _).2
  · rw [xor_bits a _ la ha (by decide) (by decide) k hk]
    by_cases h63 : k < 63
    · rw [hm k h63]
      have h1 := bitOf_01 a k
      have e : bitOf (if a < 0 then a + 9223372036854775808 else a - 9223372036854775808) k = bitOf a k := by
        split
        · have := bitOf_add a 1 63 k h63
          rw [show a + 2 ^ 63 * 1 = a + 9223372036854775808 from by rw [show (2 : Int) ^ 63 = 9223372036854775808 from by decide]; omega] at this
          exact this
        · have := bitOf_add a (-1) 63 k h63
          rw [show a + 2 ^ 63 * (-1) = a - 9223372036854775808 from by rw [show (2 : Int) ^ 63 = 9223372036854775808 from by decide]; omega] at this
          exact this
      rw [e]
      rcases (by omega : bitOf a k = 0 ∨ bitOf a k = 1) with h | h <;> rw [h] <;> rfl
    · have hk63 : k = 63 := by omega
      subst hk63
      have hs : bitOf a 63 = if a < 0 then 1 else 0 := by
        unfold bitOf
        rw [show (2 : Int) ^ 63 = 9223372036854775808 from by decide]
        split <;> omega
      have hx : bitOf (if a < 0 then a + 9223372036854775808 else a - 9223372036854775808) 63 = if a < 0 then 0 else 1 := by
        unfold bitOf
        rw [show (2 : Int) ^ 63 = 9223372036854775808 from by decide]
        by_cases h : a < 0
        · rw [if_pos h, if_pos h]; omega
        · rw [if_neg h, if_neg h]; omega
      rw [hs, hx, show bitOf (-9223372036854775808) 63 = 1 from by decide]
      by_cases h : a < 0
      · rw [if_pos h, if_pos h]; rfl
      · rw [if_neg h, if_neg h]; rfl
theorem ult_same (a b : Int) (la : -9223372036854775808 ≤ a) (ha : a ≤ 9223372036854775807) (lb : -9223372036854775808 ≤ b) (hb : b ≤ 9223372036854775807) : (bits .xor .i64 a (-9223372036854775808) < bits .xor .i64 b (-9223372036854775808)) ↔ (IntKind.u64.wrap a < IntKind.u64.wrap b) := by
  rw [xor_min a la ha, xor_min b lb hb, IntKind.wrap_u64, IntKind.wrap_u64]
  split <;> split <;> omega
theorem refheld29 (a b : Int) (w : World) : held_ 29 a b w (if a = b then 1 else 0) := by
  have y0 := fun w => refyes_any false w 0 rfl
  have y1 := fun w => refyes_any true w 1 rfl
  by_cases h : a = b
  · rw [if_pos h]
    have h1 : (a == b) = true := by simp [h]
    go_enter Tryd.func83, Tryd.ntmps83
    go_wp2_with (go_at_call 77; first | (with_reducible refine (y0 _).mono ?_; rintro e w' ⟨rfl, hw⟩; replace hw := hw.symm; subst hw) | (with_reducible refine (y1 _).mono ?_; rintro e w' ⟨rfl, hw⟩; replace hw := hw.symm; subst hw))
    go_ret
    exact ⟨rfl, rfl⟩
  · rw [if_neg h]
    have h1 : (a == b) = false := by simp [h]
    go_enter Tryd.func83, Tryd.ntmps83
    go_wp2_with (go_at_call 77; first | (with_reducible refine (y0 _).mono ?_; rintro e w' ⟨rfl, hw⟩; replace hw := hw.symm; subst hw) | (with_reducible refine (y1 _).mono ?_; rintro e w' ⟨rfl, hw⟩; replace hw := hw.symm; subst hw))
    go_ret
    exact ⟨rfl, rfl⟩
theorem refheld30 (a b : Int) (w : World) : held_ 30 a b w (if a = b then 0 else 1) := by
  have y0 := fun w => refyes_any false w 0 rfl
  have y1 := fun w => refyes_any true w 1 rfl
  by_cases h : a = b
  · rw [if_pos h]
    have h1 : (a != b) = false := by simp [h]
    go_enter Tryd.func83, Tryd.ntmps83
    go_wp2_with (go_at_call 77; first | (with_reducible refine (y0 _).mono ?_; rintro e w' ⟨rfl, hw⟩; replace hw := hw.symm; subst hw) | (with_reducible refine (y1 _).mono ?_; rintro e w' ⟨rfl, hw⟩; replace hw := hw.symm; subst hw))
    go_ret
    exact ⟨rfl, rfl⟩
  · rw [if_neg h]
    have h1 : (a != b) = true := by simp [h]
    go_enter Tryd.func83, Tryd.ntmps83
    go_wp2_with (go_at_call 77; first | (with_reducible refine (y0 _).mono ?_; rintro e w' ⟨rfl, hw⟩; replace hw := hw.symm; subst hw) | (with_reducible refine (y1 _).mono ?_; rintro e w' ⟨rfl, hw⟩; replace hw := hw.symm; subst hw))
    go_ret
    exact ⟨rfl, rfl⟩
theorem refheld31 (a b : Int) (w : World) : held_ 31 a b w (if a < b then 1 else 0) := by
  have y0 := fun w => refyes_any false w 0 rfl
  have y1 := fun w => refyes_any true w 1 rfl
  by_cases h : a < b
  · rw [if_pos h]
    have h1 : (decide (a < b)) = true := decide_eq_true h
    go_enter Tryd.func83, Tryd.ntmps83
    go_wp2_with (go_at_call 77; first | (with_reducible refine (y0 _).mono ?_; rintro e w' ⟨rfl, hw⟩; replace hw := hw.symm; subst hw) | (with_reducible refine (y1 _).mono ?_; rintro e w' ⟨rfl, hw⟩; replace hw := hw.symm; subst hw))
    go_ret
    exact ⟨rfl, rfl⟩
  · rw [if_neg h]
    have h1 : (decide (a < b)) = false := decide_eq_false h
    go_enter Tryd.func83, Tryd.ntmps83
    go_wp2_with (go_at_call 77; first | (with_reducible refine (y0 _).mono ?_; rintro e w' ⟨rfl, hw⟩; replace hw := hw.symm; subst hw) | (with_reducible refine (y1 _).mono ?_; rintro e w' ⟨rfl, hw⟩; replace hw := hw.symm; subst hw))
    go_ret
    exact ⟨rfl, rfl⟩
theorem refheld32 (a b : Int) (w : World) : held_ 32 a b w (if a ≤ b then 1 else 0) := by
  have y0 := fun w => refyes_any false w 0 rfl
  have y1 := fun w => refyes_any true w 1 rfl
  by_cases h : a ≤ b
  · rw [if_pos h]
    have h1 : (decide (a ≤ b)) = true := decide_eq_true h
    go_enter Tryd.func83, Tryd.ntmps83
    go_wp2_with (go_at_call 77; first | (with_reducible refine (y0 _).mono ?_; rintro e w' ⟨rfl, hw⟩; replace hw := hw.symm; subst hw) | (with_reducible refine (y1 _).mono ?_; rintro e w' ⟨rfl, hw⟩; replace hw := hw.symm; subst hw))
    go_ret
    exact ⟨rfl, rfl⟩
  · rw [if_neg h]
    have h1 : (decide (a ≤ b)) = false := decide_eq_false h
    go_enter Tryd.func83, Tryd.ntmps83
    go_wp2_with (go_at_call 77; first | (with_reducible refine (y0 _).mono ?_; rintro e w' ⟨rfl, hw⟩; replace hw := hw.symm; subst hw) | (with_reducible refine (y1 _).mono ?_; rintro e w' ⟨rfl, hw⟩; replace hw := hw.symm; subst hw))
    go_ret
    exact ⟨rfl, rfl⟩
theorem refheld33 (a b : Int) (la : -9223372036854775808 ≤ a) (ha : a ≤ 9223372036854775807) (lb : -9223372036854775808 ≤ b) (hb : b ≤ 9223372036854775807) (w : World) : held_ 33 a b w (if bits BinOp.xor IntKind.i64 a (-9223372036854775808) < bits BinOp.xor IntKind.i64 b (-9223372036854775808) then 1 else 0) := by
  have y0 := fun w => refyes_any false w 0 rfl
  have y1 := fun w => refyes_any true w 1 rfl
  have hs := ult_same a b la ha lb hb
  by_cases h : IntKind.u64.wrap a < IntKind.u64.wrap b
  · rw [if_pos (hs.2 h)]
    have h1 : decide (IntKind.u64.wrap a < IntKind.u64.wrap b) = true := decide_eq_true h
    clear hs
    go_enter Tryd.func83, Tryd.ntmps83
    go_wp2_with (go_at_call 77; first | (with_reducible refine (y0 _).mono ?_; rintro e w' ⟨rfl, hw⟩; replace hw := hw.symm; subst hw) | (with_reducible refine (y1 _).mono ?_; rintro e w' ⟨rfl, hw⟩; replace hw := hw.symm; subst hw))
    go_ret
    exact ⟨rfl, rfl⟩
  · rw [if_neg (fun g => h (hs.1 g))]
    have h1 : decide (IntKind.u64.wrap a < IntKind.u64.wrap b) = false := decide_eq_false h
    clear hs
    go_enter Tryd.func83, Tryd.ntmps83
    go_wp2_with (go_at_call 77; first | (with_reducible refine (y0 _).mono ?_; rintro e w' ⟨rfl, hw⟩; replace hw := hw.symm; subst hw) | (with_reducible refine (y1 _).mono ?_; rintro e w' ⟨rfl, hw⟩; replace hw := hw.symm; subst hw))
    go_ret
    exact ⟨rfl, rfl⟩
theorem refheld34 (a b : Int) (w : World) : held_ 34 a b w (if b < a then b else a) := by
  by_cases h : b < a
  · rw [if_pos h]
    go_enter Tryd.func83, Tryd.ntmps83
    go_wp2
    go_ret
    exact ⟨rfl, rfl⟩
  · rw [if_neg h]
    go_enter Tryd.func83, Tryd.ntmps83
    go_wp2
    go_ret
    exact ⟨rfl, rfl⟩
theorem refheld35 (a b : Int) (w : World) : held_ 35 a b w (if a < b then b else a) := by
  by_cases h : a < b
  · rw [if_pos h]
    go_enter Tryd.func83, Tryd.ntmps83
    go_wp2
    go_ret
    exact ⟨rfl, rfl⟩
  · rw [if_neg h]
    go_enter Tryd.func83, Tryd.ntmps83
    go_wp2
    go_ret
    exact ⟨rfl, rfl⟩
theorem refheld36 (a b : Int) (la : -9223372036854775808 ≤ a) (ha : a ≤ 9223372036854775807) (lb : -9223372036854775808 ≤ b) (hb : b ≤ 9223372036854775807) (w : World) : held_ 36 a b w (a * b / 18446744073709551616) := by
  have c := refwide_any a b la ha lb hb
  generalize a * b / 18446744073709551616 = H at *
  generalize a * b % 18446744073709551616 = L at *
  go_enter Tryd.func83, Tryd.ntmps83
  go_wp2_with (go_at_call 79; with_reducible refine (c _).mono ?_; rintro e w' ⟨rfl, hw⟩; replace hw := hw.symm; subst hw)
  go_ret
  exact ⟨rfl, rfl⟩
theorem two_held (n a b x : Int) (w : World) (h0 : 29 ≤ n) (h1 : n ≤ 36) (c : ∀ w, held_ n a b w x) : two_ n a b w x 0 := by
  go_enter Tryd.func58, Tryd.ntmps58
  go_wp2_with (go_at_call 83; with_reducible refine (c _).mono ?_; rintro e w' ⟨rfl, hw⟩; replace hw := hw.symm; subst hw)
  go_ret2
  exact ⟨rfl, rfl⟩
abbrev apply_ (n a b : Int) (w : World) (x y : Int) : Prop := Calls Tryd.prog 37 #[.int .i64 n, .int .i64 a, .int .i64 b] w fun e w' => e = .returned (.tuple #[.int .i64 x, .int .i64 y]) ∧ w' = w
theorem refarity1 (n : Int) (h0 : 1 ≤ n) (h1 : n ≤ 15) (w : World) : Calls Tryd.prog 56 #[.int .i64 n] w fun e w' => e = .returned (.int .i64 1) ∧ w' = w := by
  go_enter Tryd.func56, Tryd.ntmps56
  go_wp2
  go_ret
  exact ⟨rfl, rfl⟩
theorem refarity2 (n : Int) (h0 : 16 ≤ n) (h1 : n ≤ 36) (w : World) : Calls Tryd.prog 56 #[.int .i64 n] w fun e w' => e = .returned (.int .i64 2) ∧ w' = w := by
  go_enter Tryd.func56, Tryd.ntmps56
  go_wp2
  go_ret
  exact ⟨rfl, rfl⟩
theorem refarity0 (n : Int) (h : n < 1 ∨ 36 < n) (w : World) : Calls Tryd.prog 56 #[.int .i64 n] w fun e w' => e = .returned (.int .i64 0) ∧ w' = w := by
  rcases h with h | h
  · go_enter Tryd.func56, Tryd.ntmps56
    go_wp2
    go_ret
    exact ⟨rfl, rfl⟩
  · go_enter Tryd.func56, Tryd.ntmps56
    go_wp2
    go_ret
    exact ⟨rfl, rfl⟩
theorem apply_one (n a b x : Int) (w : World) (h0 : 1 ≤ n) (h1 : n ≤ 15) (c : ∀ w, Calls Tryd.prog 57 #[.int .i64 n, .int .i64 a] w fun e w' => e = .returned (.int .i64 x) ∧ w' = w) : apply_ n a b w x 0 := by
  have cA := refarity1 n h0 h1
  go_enter Tryd.func37, Tryd.ntmps37
  go_wp2_with (first | (go_at_call 56; with_reducible refine (cA _).mono ?_; rintro e w' ⟨rfl, hw⟩; replace hw := hw.symm; subst hw) | (go_at_call 57; with_reducible refine (c _).mono ?_; rintro e w' ⟨rfl, hw⟩; replace hw := hw.symm; subst hw))
  go_ret2
  exact ⟨rfl, rfl⟩
theorem apply_two (n a b x y : Int) (w : World) (h0 : 16 ≤ n) (h1 : n ≤ 36) (c : ∀ w, two_ n a b w x y) : apply_ n a b w x y := by
  have cA := refarity2 n h0 h1
  go_enter Tryd.func37, Tryd.ntmps37
  go_wp2_with (first | (go_at_call 56; with_reducible refine (cA _).mono ?_; rintro e w' ⟨rfl, hw⟩; replace hw := hw.symm; subst hw) | (go_at_call 58; with_reducible refine (c _).mono ?_; rintro e w' ⟨rfl, hw⟩; replace hw := hw.symm; subst hw))
  go_ret2
  exact ⟨rfl, rfl⟩
theorem apply_none (n a b : Int) (w : World) (h : n < 1 ∨ 36 < n) : apply_ n a b w 0 22 := by
  have cA := refarity0 n h
  go_enter Tryd.func37, Tryd.ntmps37
  go_wp2_with (go_at_call 56; with_reducible refine (cA _).mono ?_; rintro e w' ⟨rfl, hw⟩; replace hw := hw.symm; subst hw)
  go_ret2
  exact ⟨rfl, rfl⟩
abbrev papply_ (n a b : Int) (w : World) (x y : Int) : Prop := Calls Tryd.prog 55 #[.int .i64 n, .int .i64 a, .int .i64 b] w fun e w' => e = .returned (.tuple #[.int .i64 x, .int .i64 y]) ∧ w' = w
/-- A contract that tells some number, of which there is but one. -/
theorem only {f : FuncId} {args : Array Value} {p : Nat → Prop} (one : ∀ m n, p m → p n → m = n) (n : Nat) (hn : p n) {g : Nat → Ending} (h : ∀ w, Calls Tryd.prog f args w fun e w' => ∃ m : Nat, p m ∧ e = g m ∧ w' = w) : ∀ w, Calls Tryd.prog f args w fun e w' => e = g n ∧ w' = w :=
  fun w => (h w).mono fun e w' ⟨m, hm, he, hw⟩ => by rw [one n m hn hm]; exact ⟨he, hw⟩
theorem lead_ex (a : Int) : ∃ n, IsLead a n := by
  have h : ∀ m, m ≤ 64 → (∃ n, n ≤ m ∧ IsLead a n) ∨ (∀ j, j < m → bitOf a (63 - j) = 0) := by
    intro m
    induction m with
    | zero => exact fun _ => .inr fun j hj => by omega
    | succ m ih =>
      intro hm
      rcases ih (by omega) with ⟨n, hn, h⟩ | h
      · exact .inl ⟨n, by omega, h⟩
      · have hb := bitOf_01 a (63 - m)
        rcases (by omega : bitOf a (63 - m) = 0 ∨ bitOf a (63 - m) = 1) with g | g
        · exact .inr fun j hj => by rcases Nat.lt_or_ge j m with e | e; exact h j e; exact (show j = m by omega) ▸ g
        · exact .inl ⟨m, by omega, by omega, h, fun _ => g⟩
  rcases h 64 (by omega) with ⟨n, _, h⟩ | h
  · exact ⟨n, h⟩
  · exact ⟨64, by omega, h, fun h => by omega⟩
/-- Both make the same. -/
theorem both (k a b : Int) (la : -9223372036854775808 ≤ a) (ha : a ≤ 9223372036854775807) (lb : -9223372036854775808 ≤ b) (hb : b ≤ 9223372036854775807) : ∃ x y : Int, (∀ w, papply_ k a b w x y) ∧ (∀ w, apply_ k a b w x y) ∧ (-9223372036854775808 ≤ x ∧ x ≤ 9223372036854775807 ∨ True) := by
  by_cases h1 : k < 1 ∨ 36 < k
  · exact ⟨0, 22, fun w => no_op k a b w h1, fun w => apply_none k a b w h1, .inr trivial⟩
  have hk : ∃ n : Nat, k = n ∧ 1 ≤ n ∧ n ≤ 36 := ⟨k.toNat, by omega, by omega, by omega⟩
  obtain ⟨n, rfl, hn1, hn2⟩ := hk
  clear h1
  have hc : n = 1 ∨ n = 2 ∨ n = 3 ∨ n = 4 ∨ n = 5 ∨ n = 6 ∨ n = 7 ∨ n = 8 ∨ n = 9 ∨ n = 10 ∨ n = 11 ∨ n = 12 ∨ n = 13 ∨ n = 14 ∨ n = 15 ∨ n = 16 ∨ n = 17 ∨ n = 18 ∨ n = 19 ∨ n = 20 ∨ n = 21 ∨ n = 22 ∨ n = 23 ∨ n = 24 ∨ n = 25 ∨ n = 26 ∨ n = 27 ∨ n = 28 ∨ n = 29 ∨ n = 30 ∨ n = 31 ∨ n = 32 ∨ n = 33 ∨ n = 34 ∨ n = 35 ∨ n = 36 := by omega
  rcases hc with rfl | rfl | rfl | rfl | rfl | rfl | rfl | rfl | rfl | rfl | rfl | rfl | rfl | rfl | rfl | rfl | rfl | rfl | rfl | rfl | rfl | rfl | rfl | rfl | rfl | rfl | rfl | rfl | rfl | rfl | rfl | rfl | rfl | rfl | rfl | rfl
  · exact ⟨_, _, fun w => neg_any a b w, fun w => apply_one _ a b _ w (by decide) (by decide) (refone1 a), .inr trivial⟩
  · exact ⟨_, _, fun w => not_any a b w, fun w => apply_one _ a b _ w (by decide) (by decide) (refone2 a la ha), .inr trivial⟩
  · exact ⟨_, _, fun w => abs_op a b w, fun w => apply_one _ a b _ w (by decide) (by decide) (refone3 a), .inr trivial⟩
  · exact ⟨_, _, fun w => ones_op a b w, fun w => apply_one _ a b _ w (by decide) (by decide) (refone4 a), .inr trivial⟩
  · obtain ⟨n, hn⟩ := lead_ex a
    have p := only (g := fun m => .returned (.tuple #[.int .i64 m, .int .i64 0])) (lead_one a) n hn (lead_op a b)
    have r := only (g := fun m => .returned (.int .i64 m)) (lead_one a) n hn (refone5 a)
    exact ⟨_, _, p, fun w => apply_one _ a b _ w (by decide) (by decide) r, .inr trivial⟩
  · obtain ⟨n, hn⟩ := lead_ex (wrap64 (flipN a 64))
    have p := only (g := fun m => .returned (.tuple #[.int .i64 m, .int .i64 0])) (lead_one _) n hn (trail_op a b)
    have r := only (g := fun m => .returned (.int .i64 m)) (trail_one a) n (trail_lead a n hn) (refone6 a)
    exact ⟨_, _, p, fun w => apply_one _ a b _ w (by decide) (by decide) r, .inr trivial⟩
  · exact ⟨_, _, fun w => flip_op a b w, fun w => apply_one _ a b _ w (by decide) (by decide) (refone7 a), .inr trivial⟩
  · exact ⟨_, _, fun w => bool_op a b w, fun w => apply_one _ a b _ w (by decide) (by decide) (refone8 a), .inr trivial⟩
  · exact ⟨_, _, fun w => no_op1 a b w, fun w => apply_one _ a b _ w (by decide) (by decide) (refone9 a), .inr trivial⟩
  · exact ⟨_, _, fun w => i8_any a b w, fun w => apply_one _ a b _ w (by decide) (by decide) (fun w => by have := refone10 a w; rw [cv10] at this; exact this), .inr trivial⟩
  · exact ⟨_, _, fun w => i16_any a b w, fun w => apply_one _ a b _ w (by decide) (by decide) (fun w => by have := refone11 a w; rw [cv11] at this; exact this), .inr trivial⟩
  · exact ⟨_, _, fun w => i32_any a b w, fun w => apply_one _ a b _ w (by decide) (by decide) (fun w => by have := refone12 a w; rw [cv12] at this; exact this), .inr trivial⟩
  · exact ⟨_, _, fun w => u8_any a b w, fun w => apply_one _ a b _ w (by decide) (by decide) (fun w => by have := refone13 a w; rw [cv13] at this; exact this), .inr trivial⟩
  · exact ⟨_, _, fun w => u16_any a b w, fun w => apply_one _ a b _ w (by decide) (by decide) (fun w => by have := refone14 a w; rw [cv14] at this; exact this), .inr trivial⟩
  · exact ⟨_, _, fun w => u32_any a b w, fun w => apply_one _ a b _ w (by decide) (by decide) (fun w => by have := refone15 a w; rw [cv15] at this; exact this), .inr trivial⟩
  · exact ⟨_, _, fun w => add_any a b w, fun w => apply_two _ a b _ _ w (by decide) (by decide) (reftwo16 a b), .inr trivial⟩
  · exact ⟨_, _, fun w => sub_any a b w, fun w => apply_two _ a b _ _ w (by decide) (by decide) (reftwo17 a b), .inr trivial⟩
  · exact ⟨_, _, fun w => mul_any a b w, fun w => apply_two _ a b _ _ w (by decide) (by decide) (reftwo18 a b la ha lb hb), .inr trivial⟩
  · by_cases hz : b = 0
    · exact ⟨_, _, fun w => div_zero a b w hz, fun w => apply_two _ a b _ _ w (by decide) (by decide) (fun w => reftwo19z a b w hz), .inr trivial⟩
    · exact ⟨_, _, fun w => div_any a b w (by simpa using hz) hz, fun w => apply_two _ a b _ _ w (by decide) (by decide) (fun w => reftwo19 a b la ha lb hb w (by simpa using hz) hz), .inr trivial⟩
  · by_cases hz : b = 0
    · exact ⟨_, _, fun w => rem_zero a b w hz, fun w => apply_two _ a b _ _ w (by decide) (by decide) (fun w => reftwo20z a b w hz), .inr trivial⟩
    · exact ⟨_, _, fun w => rem_any a b w (by simpa using hz) hz, fun w => apply_two _ a b _ _ w (by decide) (by decide) (fun w => reftwo20 a b la ha lb hb w (by simpa using hz) hz), .inr trivial⟩
  · exact ⟨_, _, fun w => and_op a b w, fun w => apply_two _ a b _ _ w (by decide) (by decide) (reftwo21 a b la ha lb hb), .inr trivial⟩
  · exact ⟨_, _, fun w => or_op a b w, fun w => apply_two _ a b _ _ w (by decide) (by decide) (reftwo22 a b la ha lb hb), .inr trivial⟩
  · exact ⟨_, _, fun w => xor_op a b w, fun w => apply_two _ a b _ _ w (by decide) (by decide) (reftwo23 a b la ha lb hb), .inr trivial⟩
  · exact ⟨_, _, fun w => clear_op a b w, fun w => apply_two _ a b _ _ w (by decide) (by decide) (reftwo24 a b la ha lb hb), .inr trivial⟩
  · by_cases hz : b < 0
    · exact ⟨_, _, fun w => shl_neg a b w hz, fun w => apply_two _ a b _ _ w (by decide) (by decide) (fun w => reftwo25n a b w hz), .inr trivial⟩
    · exact ⟨_, _, fun w => shl_op a b w (by omega) hb, fun w => apply_two _ a b _ _ w (by decide) (by decide) (fun w => reftwo25 a b la ha lb hb w (by omega)), .inr trivial⟩
  · by_cases hz : b < 0
    · exact ⟨_, _, fun w => shr_neg a b w hz, fun w => apply_two _ a b _ _ w (by decide) (by decide) (fun w => reftwo26n a b w hz), .inr trivial⟩
    · exact ⟨_, _, fun w => shr_op a b w (by omega) hb, fun w => apply_two _ a b _ _ w (by decide) (by decide) (fun w => reftwo26 a b la ha lb hb w (by omega)), .inr trivial⟩
  · by_cases hz : b < 0
    · exact ⟨_, _, fun w => ushr_neg a b w hz, fun w => apply_two _ a b _ _ w (by decide) (by decide) (fun w => reftwo27n a b w hz), .inr trivial⟩
    · exact ⟨_, _, fun w => ushr_op a b w (by omega) hb, fun w => apply_two _ a b _ _ w (by decide) (by decide) (fun w => reftwo27 a b la ha lb hb w (by omega)), .inr trivial⟩
  · exact ⟨_, _, fun w => rotl_any a b w, fun w => apply_two _ a b _ _ w (by decide) (by decide) (reftwo28 a b la ha lb hb), .inr trivial⟩
  · exact ⟨_, _, fun w => eq_op a b w, fun w => apply_two _ a b _ _ w (by decide) (by decide) (fun w => two_held _ a b _ w (by decide) (by decide) (refheld29 a b)), .inr trivial⟩
  · exact ⟨_, _, fun w => ne_op a b w, fun w => apply_two _ a b _ _ w (by decide) (by decide) (fun w => two_held _ a b _ w (by decide) (by decide) (refheld30 a b)), .inr trivial⟩
  · exact ⟨_, _, fun w => lt_op a b w, fun w => apply_two _ a b _ _ w (by decide) (by decide) (fun w => two_held _ a b _ w (by decide) (by decide) (refheld31 a b)), .inr trivial⟩
  · exact ⟨_, _, fun w => le_op a b w, fun w => apply_two _ a b _ _ w (by decide) (by decide) (fun w => two_held _ a b _ w (by decide) (by decide) (refheld32 a b)), .inr trivial⟩
  · exact ⟨_, _, fun w => ult_op a b w, fun w => apply_two _ a b _ _ w (by decide) (by decide) (fun w => two_held _ a b _ w (by decide) (by decide) (refheld33 a b la ha lb hb)), .inr trivial⟩
  · exact ⟨_, _, fun w => min_op a b w, fun w => apply_two _ a b _ _ w (by decide) (by decide) (fun w => two_held _ a b _ w (by decide) (by decide) (refheld34 a b)), .inr trivial⟩
  · exact ⟨_, _, fun w => max_op a b w, fun w => apply_two _ a b _ _ w (by decide) (by decide) (fun w => two_held _ a b _ w (by decide) (by decide) (refheld35 a b)), .inr trivial⟩
  · exact ⟨_, _, fun w => high_op a b la ha lb hb w, fun w => apply_two _ a b _ _ w (by decide) (by decide) (fun w => two_held _ a b _ w (by decide) (by decide) (refheld36 a b la ha lb hb)), .inr trivial⟩
end Go.Proofs.YtjcmhaaohdmjpaaDoor.word
/- What an operation makes, and why it makes nothing, as one function of its operands: package word's Apply and the document's own make it, and it is a word. -/
namespace Go.Proofs.YtjcmhaaohdmjpaaDoor.word
open Go.ChangeShapes Go.WideShapes Go.ChangeAt Go.RowKit
open wrapped
set_option linter.unusedVariables false
abbrev B64 (x : Int) : Prop := -9223372036854775808 ≤ x ∧ x ≤ 9223372036854775807
theorem w64 (x : Int) : B64 (wrap64 x) := by unfold B64 wrap64; omega
theorem band (x y : Int) : B64 (bits .and .i64 x y) := by rw [bits_and_eq]; exact toInt_bd _
theorem bor (x y : Int) : B64 (bits .or .i64 x y) := by rw [bits_or_eq]; exact toInt_bd _
theorem bxor (x y : Int) : B64 (bits .xor .i64 x y) := by rw [bits_xor_eq]; exact toInt_bd _
theorem bif01 (c : Prop) [Decidable c] : B64 (if c then 0 else 1) := by split <;> exact ⟨by decide, by decide⟩
theorem bif10 (c : Prop) [Decidable c] : B64 (if c then 1 else 0) := by split <;> exact ⟨by decide, by decide⟩
theorem b0 : B64 0 := ⟨by decide, by decide⟩
theorem ones_le (a : Int) : ∀ n, 0 ≤ onesN a n ∧ onesN a n ≤ n
  | 0 => by simp [onesN]
  | n + 1 => by
    have h := ones_le a n
    have h1 := bitOf_01 a n
    unfold onesN
    omega
theorem ones_bd (a : Int) : B64 (onesN a 64) := by have := ones_le a 64; unfold B64; omega
theorem lead_bd {a : Int} {n : Nat} (h : IsLead a n) : B64 (n : Int) := by have := h.1; unfold B64; omega
theorem mod_bd (a : Int) : B64 (a % 256) := by unfold B64; omega
theorem mod_bd4 (a : Int) : B64 (a % 4294967296) := by unfold B64; omega
theorem babs (a : Int) (la : -9223372036854775808 ≤ a) (ha : a ≤ 9223372036854775807) : B64 (if a < 0 then wrap64 (-a) else a) := by
  split
  · exact w64 _
  · exact ⟨la, ha⟩
theorem shr_bd (a : Int) (m : Nat) (la : -9223372036854775808 ≤ a) (ha : a ≤ 9223372036854775807) : B64 (a / 2 ^ m) := by
  have hp : (0 : Int) < 2 ^ m := Int.pow_pos (by decide)
  generalize (2 : Int) ^ m = p at *
  constructor
  · refine Int.le_ediv_of_mul_le hp ?_
    have : 9223372036854775808 * 1 ≤ 9223372036854775808 * p := Int.mul_le_mul_of_nonneg_left (by omega) (by decide)
    omega
  · have : a / p < 9223372036854775808 := Int.ediv_lt_of_lt_mul hp (by
      have : 9223372036854775808 * 1 ≤ 9223372036854775808 * p := Int.mul_le_mul_of_nonneg_left (by omega) (by decide)
      omega)
    omega
theorem rem_bd (a b : Int) (la : -9223372036854775808 ≤ a) (ha : a ≤ 9223372036854775807) : B64 (a.tmod b) := by
  have h : (a.tmod b).natAbs ≤ a.natAbs := by
    rw [Int.natAbs_tmod]
    exact Nat.mod_le _ _
  by_cases c : 0 ≤ a
  · have := Int.tmod_nonneg b c
    unfold B64
    omega
  · unfold B64
    have h2 : 0 ≤ (-a).tmod b := Int.tmod_nonneg b (by omega)
    rw [Int.neg_tmod] at h2
    omega
theorem high_bd (a b : Int) (la : -9223372036854775808 ≤ a) (ha : a ≤ 9223372036854775807) (lb : -9223372036854775808 ≤ b) (hb : b ≤ 9223372036854775807) : B64 (a * b / 18446744073709551616) := by
  have h : (a * b).natAbs ≤ 9223372036854775808 * 9223372036854775808 := by
    rw [Int.natAbs_mul]
    exact Nat.mul_le_mul (by omega) (by omega)
  generalize a * b = p at *
  unfold B64
  omega
theorem bmin (a b : Int) (la : -9223372036854775808 ≤ a) (ha : a ≤ 9223372036854775807) (lb : -9223372036854775808 ≤ b) (hb : b ≤ 9223372036854775807) : B64 (if b < a then b else a) := by split <;> exact ⟨by omega, by omega⟩
theorem bmax (a b : Int) (la : -9223372036854775808 ≤ a) (ha : a ≤ 9223372036854775807) (lb : -9223372036854775808 ≤ b) (hb : b ≤ 9223372036854775807) : B64 (if a < b then b else a) := by split <;> exact ⟨by omega, by omega⟩
theorem both1 (k a : Int) (h1 : 1 ≤ k) (h2 : k ≤ 15) (la : -9223372036854775808 ≤ a) (ha : a ≤ 9223372036854775807) : ∃ x : Int, (∀ b w, papply_ k a b w x 0) ∧ (∀ b w, apply_ k a b w x 0) ∧ B64 x := by
  obtain ⟨n, rfl, hn1, hn2⟩ : ∃ n : Nat, k = n ∧ 1 ≤ n ∧ n ≤ 15 := ⟨k.toNat, by omega, by omega, by omega⟩
  clear h1 h2
  have hc : n = 1 ∨ n = 2 ∨ n = 3 ∨ n = 4 ∨ n = 5 ∨ n = 6 ∨ n = 7 ∨ n = 8 ∨ n = 9 ∨ n = 10 ∨ n = 11 ∨ n = 12 ∨ n = 13 ∨ n = 14 ∨ n = 15 := by omega
  rcases hc with rfl | rfl | rfl | rfl | rfl | rfl | rfl | rfl | rfl | rfl | rfl | rfl | rfl | rfl | rfl
  · exact ⟨_, fun b w => neg_any a b w, fun b w => apply_one _ a b _ w (by decide) (by decide) (refone1 a), (by first | with_reducible exact w64 _ | with_reducible exact band _ _ | with_reducible exact bor _ _ | with_reducible exact bxor _ _ | with_reducible exact bif01 _ | with_reducible exact bif10 _ | with_reducible exact ones_bd _ | with_reducible exact mod_bd _ | with_reducible exact mod_bd4 _ | with_reducible exact babs _ la ha | with_reducible exact shr_bd _ _ la ha | with_reducible exact rem_bd _ _ la ha | with_reducible exact high_bd _ _ la ha lb hb | with_reducible exact bmin _ _ la ha lb hb | with_reducible exact bmax _ _ la ha lb hb | with_reducible exact b0)⟩
  · exact ⟨_, fun b w => not_any a b w, fun b w => apply_one _ a b _ w (by decide) (by decide) (refone2 a la ha), (by first | with_reducible exact w64 _ | with_reducible exact band _ _ | with_reducible exact bor _ _ | with_reducible exact bxor _ _ | with_reducible exact bif01 _ | with_reducible exact bif10 _ | with_reducible exact ones_bd _ | with_reducible exact mod_bd _ | with_reducible exact mod_bd4 _ | with_reducible exact babs _ la ha | with_reducible exact shr_bd _ _ la ha | with_reducible exact rem_bd _ _ la ha | with_reducible exact high_bd _ _ la ha lb hb | with_reducible exact bmin _ _ la ha lb hb | with_reducible exact bmax _ _ la ha lb hb | with_reducible exact b0)⟩
  · exact ⟨_, fun b w => abs_op a b w, fun b w => apply_one _ a b _ w (by decide) (by decide) (refone3 a), (by first | with_reducible exact w64 _ | with_reducible exact band _ _ | with_reducible exact bor _ _ | with_reducible exact bxor _ _ | with_reducible exact bif01 _ | with_reducible exact bif10 _ | with_reducible exact ones_bd _ | with_reducible exact mod_bd _ | with_reducible exact mod_bd4 _ | with_reducible exact babs _ la ha | with_reducible exact shr_bd _ _ la ha | with_reducible exact rem_bd _ _ la ha | with_reducible exact high_bd _ _ la ha lb hb | with_reducible exact bmin _ _ la ha lb hb | with_reducible exact bmax _ _ la ha lb hb | with_reducible exact b0)⟩
  · exact ⟨_, fun b w => ones_op a b w, fun b w => apply_one _ a b _ w (by decide) (by decide) (refone4 a), (by first | with_reducible exact w64 _ | with_reducible exact band _ _ | with_reducible exact bor _ _ | with_reducible exact bxor _ _ | with_reducible exact bif01 _ | with_reducible exact bif10 _ | with_reducible exact ones_bd _ | with_reducible exact mod_bd _ | with_reducible exact mod_bd4 _ | with_reducible exact babs _ la ha | with_reducible exact shr_bd _ _ la ha | with_reducible exact rem_bd _ _ la ha | with_reducible exact high_bd _ _ la ha lb hb | with_reducible exact bmin _ _ la ha lb hb | with_reducible exact bmax _ _ la ha lb hb | with_reducible exact b0)⟩
  · obtain ⟨n, hn⟩ := lead_ex a
    have p := fun b => only (g := fun m => .returned (.tuple #[.int .i64 m, .int .i64 0])) (lead_one a) n hn (lead_op a b)
    have r := only (g := fun m => .returned (.int .i64 m)) (lead_one a) n hn (refone5 a)
    exact ⟨_, p, fun b w => apply_one _ a b _ w (by decide) (by decide) r, (lead_bd hn)⟩
  · obtain ⟨n, hn⟩ := lead_ex (wrap64 (flipN a 64))
    have p := fun b => only (g := fun m => .returned (.tuple #[.int .i64 m, .int .i64 0])) (lead_one _) n hn (trail_op a b)
    have r := only (g := fun m => .returned (.int .i64 m)) (trail_one a) n (trail_lead a n hn) (refone6 a)
    exact ⟨_, p, fun b w => apply_one _ a b _ w (by decide) (by decide) r, (lead_bd hn)⟩
  · exact ⟨_, fun b w => flip_op a b w, fun b w => apply_one _ a b _ w (by decide) (by decide) (refone7 a), (by first | with_reducible exact w64 _ | with_reducible exact band _ _ | with_reducible exact bor _ _ | with_reducible exact bxor _ _ | with_reducible exact bif01 _ | with_reducible exact bif10 _ | with_reducible exact ones_bd _ | with_reducible exact mod_bd _ | with_reducible exact mod_bd4 _ | with_reducible exact babs _ la ha | with_reducible exact shr_bd _ _ la ha | with_reducible exact rem_bd _ _ la ha | with_reducible exact high_bd _ _ la ha lb hb | with_reducible exact bmin _ _ la ha lb hb | with_reducible exact bmax _ _ la ha lb hb | with_reducible exact b0)⟩
  · exact ⟨_, fun b w => bool_op a b w, fun b w => apply_one _ a b _ w (by decide) (by decide) (refone8 a), (by first | with_reducible exact w64 _ | with_reducible exact band _ _ | with_reducible exact bor _ _ | with_reducible exact bxor _ _ | with_reducible exact bif01 _ | with_reducible exact bif10 _ | with_reducible exact ones_bd _ | with_reducible exact mod_bd _ | with_reducible exact mod_bd4 _ | with_reducible exact babs _ la ha | with_reducible exact shr_bd _ _ la ha | with_reducible exact rem_bd _ _ la ha | with_reducible exact high_bd _ _ la ha lb hb | with_reducible exact bmin _ _ la ha lb hb | with_reducible exact bmax _ _ la ha lb hb | with_reducible exact b0)⟩
  · exact ⟨_, fun b w => no_op1 a b w, fun b w => apply_one _ a b _ w (by decide) (by decide) (refone9 a), (by first | with_reducible exact w64 _ | with_reducible exact band _ _ | with_reducible exact bor _ _ | with_reducible exact bxor _ _ | with_reducible exact bif01 _ | with_reducible exact bif10 _ | with_reducible exact ones_bd _ | with_reducible exact mod_bd _ | with_reducible exact mod_bd4 _ | with_reducible exact babs _ la ha | with_reducible exact shr_bd _ _ la ha | with_reducible exact rem_bd _ _ la ha | with_reducible exact high_bd _ _ la ha lb hb | with_reducible exact bmin _ _ la ha lb hb | with_reducible exact bmax _ _ la ha lb hb | with_reducible exact b0)⟩
  · exact ⟨_, fun b w => i8_any a b w, fun b w => apply_one _ a b _ w (by decide) (by decide) (fun w => by have := refone10 a w; rw [cv10] at this; exact this), (by first | with_reducible exact w64 _ | with_reducible exact band _ _ | with_reducible exact bor _ _ | with_reducible exact bxor _ _ | with_reducible exact bif01 _ | with_reducible exact bif10 _ | with_reducible exact ones_bd _ | with_reducible exact mod_bd _ | with_reducible exact mod_bd4 _ | with_reducible exact babs _ la ha | with_reducible exact shr_bd _ _ la ha | with_reducible exact rem_bd _ _ la ha | with_reducible exact high_bd _ _ la ha lb hb | with_reducible exact bmin _ _ la ha lb hb | with_reducible exact bmax _ _ la ha lb hb | with_reducible exact b0)⟩
  · exact ⟨_, fun b w => i16_any a b w, fun b w => apply_one _ a b _ w (by decide) (by decide) (fun w => by have := refone11 a w; rw [cv11] at this; exact this), (by first | with_reducible exact w64 _ | with_reducible exact band _ _ | with_reducible exact bor _ _ | with_reducible exact bxor _ _ | with_reducible exact bif01 _ | with_reducible exact bif10 _ | with_reducible exact ones_bd _ | with_reducible exact mod_bd _ | with_reducible exact mod_bd4 _ | with_reducible exact babs _ la ha | with_reducible exact shr_bd _ _ la ha | with_reducible exact rem_bd _ _ la ha | with_reducible exact high_bd _ _ la ha lb hb | with_reducible exact bmin _ _ la ha lb hb | with_reducible exact bmax _ _ la ha lb hb | with_reducible exact b0)⟩
  · exact ⟨_, fun b w => i32_any a b w, fun b w => apply_one _ a b _ w (by decide) (by decide) (fun w => by have := refone12 a w; rw [cv12] at this; exact this), (by first | with_reducible exact w64 _ | with_reducible exact band _ _ | with_reducible exact bor _ _ | with_reducible exact bxor _ _ | with_reducible exact bif01 _ | with_reducible exact bif10 _ | with_reducible exact ones_bd _ | with_reducible exact mod_bd _ | with_reducible exact mod_bd4 _ | with_reducible exact babs _ la ha | with_reducible exact shr_bd _ _ la ha | with_reducible exact rem_bd _ _ la ha | with_reducible exact high_bd _ _ la ha lb hb | with_reducible exact bmin _ _ la ha lb hb | with_reducible exact bmax _ _ la ha lb hb | with_reducible exact b0)⟩
  · exact ⟨_, fun b w => u8_any a b w, fun b w => apply_one _ a b _ w (by decide) (by decide) (fun w => by have := refone13 a w; rw [cv13] at this; exact this), (by first | with_reducible exact w64 _ | with_reducible exact band _ _ | with_reducible exact bor _ _ | with_reducible exact bxor _ _ | with_reducible exact bif01 _ | with_reducible exact bif10 _ | with_reducible exact ones_bd _ | with_reducible exact mod_bd _ | with_reducible exact mod_bd4 _ | with_reducible exact babs _ la ha | with_reducible exact shr_bd _ _ la ha | with_reducible exact rem_bd _ _ la ha | with_reducible exact high_bd _ _ la ha lb hb | with_reducible exact bmin _ _ la ha lb hb | with_reducible exact bmax _ _ la ha lb hb | with_reducible exact b0)⟩
  · exact ⟨_, fun b w => u16_any a b w, fun b w => apply_one _ a b _ w (by decide) (by decide) (fun w => by have := refone14 a w; rw [cv14] at this; exact this), (by first | with_reducible exact w64 _ | with_reducible exact band _ _ | with_reducible exact bor _ _ | with_reducible exact bxor _ _ | with_reducible exact bif01 _ | with_reducible exact bif10 _ | with_reducible exact ones_bd _ | with_reducible exact mod_bd _ | with_reducible exact mod_bd4 _ | with_reducible exact babs _ la ha | with_reducible exact shr_bd _ _ la ha | with_reducible exact rem_bd _ _ la ha | with_reducible exact high_bd _ _ la ha lb hb | with_reducible exact bmin _ _ la ha lb hb | with_reducible exact bmax _ _ la ha lb hb | with_reducible exact b0)⟩
  · exact ⟨_, fun b w => u32_any a b w, fun b w => apply_one _ a b _ w (by decide) (by decide) (fun w => by have := refone15 a w; rw [cv15] at this; exact this), (by first | with_reducible exact w64 _ | with_reducible exact band _ _ | with_reducible exact bor _ _ | with_reducible exact bxor _ _ | with_reducible exact bif01 _ | with_reducible exact bif10 _ | with_reducible exact ones_bd _ | with_reducible exact mod_bd _ | with_reducible exact mod_bd4 _ | with_reducible exact babs _ la ha | with_reducible exact shr_bd _ _ la ha | with_reducible exact rem_bd _ _ la ha | with_reducible exact high_bd _ _ la ha lb hb | with_reducible exact bmin _ _ la ha lb hb | with_reducible exact bmax _ _ la ha lb hb | with_reducible exact b0)⟩
theorem both2 (k a b : Int) (h1 : 16 ≤ k) (h2 : k ≤ 36) (la : -9223372036854775808 ≤ a) (ha : a ≤ 9223372036854775807) (lb : -9223372036854775808 ≤ b) (hb : b ≤ 9223372036854775807) : ∃ x y : Int, (∀ w, papply_ k a b w x y) ∧ (∀ w, apply_ k a b w x y) ∧ B64 x ∧ (y = 20 → k = 19 ∨ k = 20) ∧ (y = 21 → k = 25 ∨ k = 26 ∨ k = 27) := by
  obtain ⟨n, rfl, hn1, hn2⟩ : ∃ n : Nat, k = n ∧ 16 ≤ n ∧ n ≤ 36 := ⟨k.toNat, by omega, by omega, by omega⟩
  clear h1 h2
  have hc : n = 16 ∨ n = 17 ∨ n = 18 ∨ n = 19 ∨ n = 20 ∨ n = 21 ∨ n = 22 ∨ n = 23 ∨ n = 24 ∨ n = 25 ∨ n = 26 ∨ n = 27 ∨ n = 28 ∨ n = 29 ∨ n = 30 ∨ n = 31 ∨ n = 32 ∨ n = 33 ∨ n = 34 ∨ n = 35 ∨ n = 36 := by omega
  rcases hc with rfl | rfl | rfl | rfl | rfl | rfl | rfl | rfl | rfl | rfl | rfl | rfl | rfl | rfl | rfl | rfl | rfl | rfl | rfl | rfl | rfl
  · exact ⟨_, _, fun w => add_any a b w, fun w => apply_two _ a b _ _ w (by decide) (by decide) (reftwo16 a b), (by first | with_reducible exact w64 _ | with_reducible exact band _ _ | with_reducible exact bor _ _ | with_reducible exact bxor _ _ | with_reducible exact bif01 _ | with_reducible exact bif10 _ | with_reducible exact ones_bd _ | with_reducible exact mod_bd _ | with_reducible exact mod_bd4 _ | with_reducible exact babs _ la ha | with_reducible exact shr_bd _ _ la ha | with_reducible exact rem_bd _ _ la ha | with_reducible exact high_bd _ _ la ha lb hb | with_reducible exact bmin _ _ la ha lb hb | with_reducible exact bmax _ _ la ha lb hb | with_reducible exact b0), fun h => by omega, fun h => by omega⟩
  · exact ⟨_, _, fun w => sub_any a b w, fun w => apply_two _ a b _ _ w (by decide) (by decide) (reftwo17 a b), (by first | with_reducible exact w64 _ | with_reducible exact band _ _ | with_reducible exact bor _ _ | with_reducible exact bxor _ _ | with_reducible exact bif01 _ | with_reducible exact bif10 _ | with_reducible exact ones_bd _ | with_reducible exact mod_bd _ | with_reducible exact mod_bd4 _ | with_reducible exact babs _ la ha | with_reducible exact shr_bd _ _ la ha | with_reducible exact rem_bd _ _ la ha | with_reducible exact high_bd _ _ la ha lb hb | with_reducible exact bmin _ _ la ha lb hb | with_reducible exact bmax _ _ la ha lb hb | with_reducible exact b0), fun h => by omega, fun h => by omega⟩
  · exact ⟨_, _, fun w => mul_any a b w, fun w => apply_two _ a b _ _ w (by decide) (by decide) (reftwo18 a b la ha lb hb), (by first | with_reducible exact w64 _ | with_reducible exact band _ _ | with_reducible exact bor _ _ | with_reducible exact bxor _ _ | with_reducible exact bif01 _ | with_reducible exact bif10 _ | with_reducible exact ones_bd _ | with_reducible exact mod_bd _ | with_reducible exact mod_bd4 _ | with_reducible exact babs _ la ha | with_reducible exact shr_bd _ _ la ha | with_reducible exact rem_bd _ _ la ha | with_reducible exact high_bd _ _ la ha lb hb | with_reducible exact bmin _ _ la ha lb hb | with_reducible exact bmax _ _ la ha lb hb | with_reducible exact b0), fun h => by omega, fun h => by omega⟩
  · by_cases hz : b = 0
    · exact ⟨_, _, fun w => div_zero a b w hz, fun w => apply_two _ a b _ _ w (by decide) (by decide) (fun w => reftwo19z a b w hz), (by first | with_reducible exact w64 _ | with_reducible exact band _ _ | with_reducible exact bor _ _ | with_reducible exact bxor _ _ | with_reducible exact bif01 _ | with_reducible exact bif10 _ | with_reducible exact ones_bd _ | with_reducible exact mod_bd _ | with_reducible exact mod_bd4 _ | with_reducible exact babs _ la ha | with_reducible exact shr_bd _ _ la ha | with_reducible exact rem_bd _ _ la ha | with_reducible exact high_bd _ _ la ha lb hb | with_reducible exact bmin _ _ la ha lb hb | with_reducible exact bmax _ _ la ha lb hb | with_reducible exact b0), fun h => by omega, fun h => by omega⟩
    · exact ⟨_, _, fun w => div_any a b w (by simpa using hz) hz, fun w => apply_two _ a b _ _ w (by decide) (by decide) (fun w => reftwo19 a b la ha lb hb w (by simpa using hz) hz), (by first | with_reducible exact w64 _ | with_reducible exact band _ _ | with_reducible exact bor _ _ | with_reducible exact bxor _ _ | with_reducible exact bif01 _ | with_reducible exact bif10 _ | with_reducible exact ones_bd _ | with_reducible exact mod_bd _ | with_reducible exact mod_bd4 _ | with_reducible exact babs _ la ha | with_reducible exact shr_bd _ _ la ha | with_reducible exact rem_bd _ _ la ha | with_reducible exact high_bd _ _ la ha lb hb | with_reducible exact bmin _ _ la ha lb hb | with_reducible exact bmax _ _ la ha lb hb | with_reducible exact b0), fun h => by omega, fun h => by omega⟩
  · by_cases hz : b = 0
    · exact ⟨_, _, fun w => rem_zero a b w hz, fun w => apply_two _ a b _ _ w (by decide) (by decide) (fun w => reftwo20z a b w hz), (by first | with_reducible exact w64 _ | with_reducible exact band _ _ | with_reducible exact bor _ _ | with_reducible exact bxor _ _ | with_reducible exact bif01 _ | with_reducible exact bif10 _ | with_reducible exact ones_bd _ | with_reducible exact mod_bd _ | with_reducible exact mod_bd4 _ | with_reducible exact babs _ la ha | with_reducible exact shr_bd _ _ la ha | with_reducible exact rem_bd _ _ la ha | with_reducible exact high_bd _ _ la ha lb hb | with_reducible exact bmin _ _ la ha lb hb | with_reducible exact bmax _ _ la ha lb hb | with_reducible exact b0), fun h => by omega, fun h => by omega⟩
    · exact ⟨_, _, fun w => rem_any a b w (by simpa using hz) hz, fun w => apply_two _ a b _ _ w (by decide) (by decide) (fun w => reftwo20 a b la ha lb hb w (by simpa using hz) hz), (by first | with_reducible exact w64 _ | with_reducible exact band _ _ | with_reducible exact bor _ _ | with_reducible exact bxor _ _ | with_reducible exact bif01 _ | with_reducible exact bif10 _ | with_reducible exact ones_bd _ | with_reducible exact mod_bd _ | with_reducible exact mod_bd4 _ | with_reducible exact babs _ la ha | with_reducible exact shr_bd _ _ la ha | with_reducible exact rem_bd _ _ la ha | with_reducible exact high_bd _ _ la ha lb hb | with_reducible exact bmin _ _ la ha lb hb | with_reducible exact bmax _ _ la ha lb hb | with_reducible exact b0), fun h => by omega, fun h => by omega⟩
  · exact ⟨_, _, fun w => and_op a b w, fun w => apply_two _ a b _ _ w (by decide) (by decide) (reftwo21 a b la ha lb hb), (by first | with_reducible exact w64 _ | with_reducible exact band _ _ | with_reducible exact bor _ _ | with_reducible exact bxor _ _ | with_reducible exact bif01 _ | with_reducible exact bif10 _ | with_reducible exact ones_bd _ | with_reducible exact mod_bd _ | with_reducible exact mod_bd4 _ | with_reducible exact babs _ la ha | with_reducible exact shr_bd _ _ la ha | with_reducible exact rem_bd _ _ la ha | with_reducible exact high_bd _ _ la ha lb hb | with_reducible exact bmin _ _ la ha lb hb | with_reducible exact bmax _ _ la ha lb hb | with_reducible exact b0), fun h => by omega, fun h => by omega⟩
  · exact ⟨_, _, fun w => or_op a b w, fun w => apply_two _ a b _ _ w (by decide) (by decide) (reftwo22 a b la ha lb hb), (by first | with_reducible exact w64 _ | with_reducible exact band _ _ | with_reducible exact bor _ _ | with_reducible exact bxor _ _ | with_reducible exact bif01 _ | with_reducible exact bif10 _ | with_reducible exact ones_bd _ | with_reducible exact mod_bd _ | with_reducible exact mod_bd4 _ | with_reducible exact babs _ la ha | with_reducible exact shr_bd _ _ la ha | with_reducible exact rem_bd _ _ la ha | with_reducible exact high_bd _ _ la ha lb hb | with_reducible exact bmin _ _ la ha lb hb | with_reducible exact bmax _ _ la ha lb hb | with_reducible exact b0), fun h => by omega, fun h => by omega⟩
  · exact ⟨_, _, fun w => xor_op a b w, fun w => apply_two _ a b _ _ w (by decide) (by decide) (reftwo23 a b la ha lb hb), (by first | with_reducible exact w64 _ | with_reducible exact band _ _ | with_reducible exact bor _ _ | with_reducible exact bxor _ _ | with_reducible exact bif01 _ | with_reducible exact bif10 _ | with_reducible exact ones_bd _ | with_reducible exact mod_bd _ | with_reducible exact mod_bd4 _ | with_reducible exact babs _ la ha | with_reducible exact shr_bd _ _ la ha | with_reducible exact rem_bd _ _ la ha | with_reducible exact high_bd _ _ la ha lb hb | with_reducible exact bmin _ _ la ha lb hb | with_reducible exact bmax _ _ la ha lb hb | with_reducible exact b0), fun h => by omega, fun h => by omega⟩
  · exact ⟨_, _, fun w => clear_op a b w, fun w => apply_two _ a b _ _ w (by decide) (by decide) (reftwo24 a b la ha lb hb), (by first | with_reducible exact w64 _ | with_reducible exact band _ _ | with_reducible exact bor _ _ | with_reducible exact bxor _ _ | with_reducible exact bif01 _ | with_reducible exact bif10 _ | with_reducible exact ones_bd _ | with_reducible exact mod_bd _ | with_reducible exact mod_bd4 _ | with_reducible exact babs _ la ha | with_reducible exact shr_bd _ _ la ha | with_reducible exact rem_bd _ _ la ha | with_reducible exact high_bd _ _ la ha lb hb | with_reducible exact bmin _ _ la ha lb hb | with_reducible exact bmax _ _ la ha lb hb | with_reducible exact b0), fun h => by omega, fun h => by omega⟩
  · by_cases hz : b < 0
    · exact ⟨_, _, fun w => shl_neg a b w hz, fun w => apply_two _ a b _ _ w (by decide) (by decide) (fun w => reftwo25n a b w hz), (by first | with_reducible exact w64 _ | with_reducible exact band _ _ | with_reducible exact bor _ _ | with_reducible exact bxor _ _ | with_reducible exact bif01 _ | with_reducible exact bif10 _ | with_reducible exact ones_bd _ | with_reducible exact mod_bd _ | with_reducible exact mod_bd4 _ | with_reducible exact babs _ la ha | with_reducible exact shr_bd _ _ la ha | with_reducible exact rem_bd _ _ la ha | with_reducible exact high_bd _ _ la ha lb hb | with_reducible exact bmin _ _ la ha lb hb | with_reducible exact bmax _ _ la ha lb hb | with_reducible exact b0), fun h => by omega, fun h => by omega⟩
    · exact ⟨_, _, fun w => shl_op a b w (by omega) hb, fun w => apply_two _ a b _ _ w (by decide) (by decide) (fun w => reftwo25 a b la ha lb hb w (by omega)), (by first | with_reducible exact w64 _ | with_reducible exact band _ _ | with_reducible exact bor _ _ | with_reducible exact bxor _ _ | with_reducible exact bif01 _ | with_reducible exact bif10 _ | with_reducible exact ones_bd _ | with_reducible exact mod_bd _ | with_reducible exact mod_bd4 _ | with_reducible exact babs _ la ha | with_reducible exact shr_bd _ _ la ha | with_reducible exact rem_bd _ _ la ha | with_reducible exact high_bd _ _ la ha lb hb | with_reducible exact bmin _ _ la ha lb hb | with_reducible exact bmax _ _ la ha lb hb | with_reducible exact b0), fun h => by omega, fun h => by omega⟩
  · by_cases hz : b < 0
    · exact ⟨_, _, fun w => shr_neg a b w hz, fun w => apply_two _ a b _ _ w (by decide) (by decide) (fun w => reftwo26n a b w hz), (by first | with_reducible exact w64 _ | with_reducible exact band _ _ | with_reducible exact bor _ _ | with_reducible exact bxor _ _ | with_reducible exact bif01 _ | with_reducible exact bif10 _ | with_reducible exact ones_bd _ | with_reducible exact mod_bd _ | with_reducible exact mod_bd4 _ | with_reducible exact babs _ la ha | with_reducible exact shr_bd _ _ la ha | with_reducible exact rem_bd _ _ la ha | with_reducible exact high_bd _ _ la ha lb hb | with_reducible exact bmin _ _ la ha lb hb | with_reducible exact bmax _ _ la ha lb hb | with_reducible exact b0), fun h => by omega, fun h => by omega⟩
    · exact ⟨_, _, fun w => shr_op a b w (by omega) hb, fun w => apply_two _ a b _ _ w (by decide) (by decide) (fun w => reftwo26 a b la ha lb hb w (by omega)), (by first | with_reducible exact w64 _ | with_reducible exact band _ _ | with_reducible exact bor _ _ | with_reducible exact bxor _ _ | with_reducible exact bif01 _ | with_reducible exact bif10 _ | with_reducible exact ones_bd _ | with_reducible exact mod_bd _ | with_reducible exact mod_bd4 _ | with_reducible exact babs _ la ha | with_reducible exact shr_bd _ _ la ha | with_reducible exact rem_bd _ _ la ha | with_reducible exact high_bd _ _ la ha lb hb | with_reducible exact bmin _ _ la ha lb hb | with_reducible exact bmax _ _ la ha lb hb | with_reducible exact b0), fun h => by omega, fun h => by omega⟩
  · by_cases hz : b < 0
    · exact ⟨_, _, fun w => ushr_neg a b w hz, fun w => apply_two _ a b _ _ w (by decide) (by decide) (fun w => reftwo27n a b w hz), (by first | with_reducible exact w64 _ | with_reducible exact band _ _ | with_reducible exact bor _ _ | with_reducible exact bxor _ _ | with_reducible exact bif01 _ | with_reducible exact bif10 _ | with_reducible exact ones_bd _ | with_reducible exact mod_bd _ | with_reducible exact mod_bd4 _ | with_reducible exact babs _ la ha | with_reducible exact shr_bd _ _ la ha | with_reducible exact rem_bd _ _ la ha | with_reducible exact high_bd _ _ la ha lb hb | with_reducible exact bmin _ _ la ha lb hb | with_reducible exact bmax _ _ la ha lb hb | with_reducible exact b0), fun h => by omega, fun h => by omega⟩
    · exact ⟨_, _, fun w => ushr_op a b w (by omega) hb, fun w => apply_two _ a b _ _ w (by decide) (by decide) (fun w => reftwo27 a b la ha lb hb w (by omega)), (by first | with_reducible exact w64 _ | with_reducible exact band _ _ | with_reducible exact bor _ _ | with_reducible exact bxor _ _ | with_reducible exact bif01 _ | with_reducible exact bif10 _ | with_reducible exact ones_bd _ | with_reducible exact mod_bd _ | with_reducible exact mod_bd4 _ | with_reducible exact babs _ la ha | with_reducible exact shr_bd _ _ la ha | with_reducible exact rem_bd _ _ la ha | with_reducible exact high_bd _ _ la ha lb hb | with_reducible exact bmin _ _ la ha lb hb | with_reducible exact bmax _ _ la ha lb hb | with_reducible exact b0), fun h => by omega, fun h => by omega⟩
  · exact ⟨_, _, fun w => rotl_any a b w, fun w => apply_two _ a b _ _ w (by decide) (by decide) (reftwo28 a b la ha lb hb), (by first | with_reducible exact w64 _ | with_reducible exact band _ _ | with_reducible exact bor _ _ | with_reducible exact bxor _ _ | with_reducible exact bif01 _ | with_reducible exact bif10 _ | with_reducible exact ones_bd _ | with_reducible exact mod_bd _ | with_reducible exact mod_bd4 _ | with_reducible exact babs _ la ha | with_reducible exact shr_bd _ _ la ha | with_reducible exact rem_bd _ _ la ha | with_reducible exact high_bd _ _ la ha lb hb | with_reducible exact bmin _ _ la ha lb hb | with_reducible exact bmax _ _ la ha lb hb | with_reducible exact b0), fun h => by omega, fun h => by omega⟩
  · exact ⟨_, _, fun w => eq_op a b w, fun w => apply_two _ a b _ _ w (by decide) (by decide) (fun w => two_held _ a b _ w (by decide) (by decide) (refheld29 a b)), (by first | with_reducible exact w64 _ | with_reducible exact band _ _ | with_reducible exact bor _ _ | with_reducible exact bxor _ _ | with_reducible exact bif01 _ | with_reducible exact bif10 _ | with_reducible exact ones_bd _ | with_reducible exact mod_bd _ | with_reducible exact mod_bd4 _ | with_reducible exact babs _ la ha | with_reducible exact shr_bd _ _ la ha | with_reducible exact rem_bd _ _ la ha | with_reducible exact high_bd _ _ la ha lb hb | with_reducible exact bmin _ _ la ha lb hb | with_reducible exact bmax _ _ la ha lb hb | with_reducible exact b0), fun h => by omega, fun h => by omega⟩
  · exact ⟨_, _, fun w => ne_op a b w, fun w => apply_two _ a b _ _ w (by decide) (by decide) (fun w => two_held _ a b _ w (by decide) (by decide) (refheld30 a b)), (by first | with_reducible exact w64 _ | with_reducible exact band _ _ | with_reducible exact bor _ _ | with_reducible exact bxor _ _ | with_reducible exact bif01 _ | with_reducible exact bif10 _ | with_reducible exact ones_bd _ | with_reducible exact mod_bd _ | with_reducible exact mod_bd4 _ | with_reducible exact babs _ la ha | with_reducible exact shr_bd _ _ la ha | with_reducible exact rem_bd _ _ la ha | with_reducible exact high_bd _ _ la ha lb hb | with_reducible exact bmin _ _ la ha lb hb | with_reducible exact bmax _ _ la ha lb hb | with_reducible exact b0), fun h => by omega, fun h => by omega⟩
  · exact ⟨_, _, fun w => lt_op a b w, fun w => apply_two _ a b _ _ w (by decide) (by decide) (fun w => two_held _ a b _ w (by decide) (by decide) (refheld31 a b)), (by first | with_reducible exact w64 _ | with_reducible exact band _ _ | with_reducible exact bor _ _ | with_reducible exact bxor _ _ | with_reducible exact bif01 _ | with_reducible exact bif10 _ | with_reducible exact ones_bd _ | with_reducible exact mod_bd _ | with_reducible exact mod_bd4 _ | with_reducible exact babs _ la ha | with_reducible exact shr_bd _ _ la ha | with_reducible exact rem_bd _ _ la ha | with_reducible exact high_bd _ _ la ha lb hb | with_reducible exact bmin _ _ la ha lb hb | with_reducible exact bmax _ _ la ha lb hb | with_reducible exact b0), fun h => by omega, fun h => by omega⟩
  · exact ⟨_, _, fun w => le_op a b w, fun w => apply_two _ a b _ _ w (by decide) (by decide) (fun w => two_held _ a b _ w (by decide) (by decide) (refheld32 a b)), (by first | with_reducible exact w64 _ | with_reducible exact band _ _ | with_reducible exact bor _ _ | with_reducible exact bxor _ _ | with_reducible exact bif01 _ | with_reducible exact bif10 _ | with_reducible exact ones_bd _ | with_reducible exact mod_bd _ | with_reducible exact mod_bd4 _ | with_reducible exact babs _ la ha | with_reducible exact shr_bd _ _ la ha | with_reducible exact rem_bd _ _ la ha | with_reducible exact high_bd _ _ la ha lb hb | with_reducible exact bmin _ _ la ha lb hb | with_reducible exact bmax _ _ la ha lb hb | with_reducible exact b0), fun h => by omega, fun h => by omega⟩
  · exact ⟨_, _, fun w => ult_op a b w, fun w => apply_two _ a b _ _ w (by decide) (by decide) (fun w => two_held _ a b _ w (by decide) (by decide) (refheld33 a b la ha lb hb)), (by first | with_reducible exact w64 _ | with_reducible exact band _ _ | with_reducible exact bor _ _ | with_reducible exact bxor _ _ | with_reducible exact bif01 _ | with_reducible exact bif10 _ | with_reducible exact ones_bd _ | with_reducible exact mod_bd _ | with_reducible exact mod_bd4 _ | with_reducible exact babs _ la ha | with_reducible exact shr_bd _ _ la ha | with_reducible exact rem_bd _ _ la ha | with_reducible exact high_bd _ _ la ha lb hb | with_reducible exact bmin _ _ la ha lb hb | with_reducible exact bmax _ _ la ha lb hb | with_reducible exact b0), fun h => by omega, fun h => by omega⟩
  · exact ⟨_, _, fun w => min_op a b w, fun w => apply_two _ a b _ _ w (by decide) (by decide) (fun w => two_held _ a b _ w (by decide) (by decide) (refheld34 a b)), (by first | with_reducible exact w64 _ | with_reducible exact band _ _ | with_reducible exact bor _ _ | with_reducible exact bxor _ _ | with_reducible exact bif01 _ | with_reducible exact bif10 _ | with_reducible exact ones_bd _ | with_reducible exact mod_bd _ | with_reducible exact mod_bd4 _ | with_reducible exact babs _ la ha | with_reducible exact shr_bd _ _ la ha | with_reducible exact rem_bd _ _ la ha | with_reducible exact high_bd _ _ la ha lb hb | with_reducible exact bmin _ _ la ha lb hb | with_reducible exact bmax _ _ la ha lb hb | with_reducible exact b0), fun h => by omega, fun h => by omega⟩
  · exact ⟨_, _, fun w => max_op a b w, fun w => apply_two _ a b _ _ w (by decide) (by decide) (fun w => two_held _ a b _ w (by decide) (by decide) (refheld35 a b)), (by first | with_reducible exact w64 _ | with_reducible exact band _ _ | with_reducible exact bor _ _ | with_reducible exact bxor _ _ | with_reducible exact bif01 _ | with_reducible exact bif10 _ | with_reducible exact ones_bd _ | with_reducible exact mod_bd _ | with_reducible exact mod_bd4 _ | with_reducible exact babs _ la ha | with_reducible exact shr_bd _ _ la ha | with_reducible exact rem_bd _ _ la ha | with_reducible exact high_bd _ _ la ha lb hb | with_reducible exact bmin _ _ la ha lb hb | with_reducible exact bmax _ _ la ha lb hb | with_reducible exact b0), fun h => by omega, fun h => by omega⟩
  · exact ⟨_, _, fun w => high_op a b la ha lb hb w, fun w => apply_two _ a b _ _ w (by decide) (by decide) (fun w => two_held _ a b _ w (by decide) (by decide) (refheld36 a b la ha lb hb)), (by first | with_reducible exact w64 _ | with_reducible exact band _ _ | with_reducible exact bor _ _ | with_reducible exact bxor _ _ | with_reducible exact bif01 _ | with_reducible exact bif10 _ | with_reducible exact ones_bd _ | with_reducible exact mod_bd _ | with_reducible exact mod_bd4 _ | with_reducible exact babs _ la ha | with_reducible exact shr_bd _ _ la ha | with_reducible exact rem_bd _ _ la ha | with_reducible exact high_bd _ _ la ha lb hb | with_reducible exact bmin _ _ la ha lb hb | with_reducible exact bmax _ _ la ha lb hb | with_reducible exact b0), fun h => by omega, fun h => by omega⟩
/-- What an operation makes, and why it makes nothing. -/
theorem ap_ex (k a b : Int) : ∃ r : Int × Int, B64 a → B64 b → 1 ≤ k → k ≤ 36 → (∀ w, papply_ k a b w r.1 r.2) ∧ (∀ w, apply_ k a b w r.1 r.2) ∧ B64 r.1 ∧ (r.2 = 20 → k = 19 ∨ k = 20) ∧ (r.2 = 21 → k = 25 ∨ k = 26 ∨ k = 27) := by
  by_cases c : (B64 a ∧ B64 b) ∧ 1 ≤ k ∧ k ≤ 36
  · by_cases q : k ≤ 15
    · obtain ⟨x, h1, h2, h3⟩ := both1 k a c.2.1 q c.1.1.1 c.1.1.2
      exact ⟨(x, 0), fun _ _ _ _ => ⟨h1 b, h2 b, h3, fun h => by simp at h, fun h => by simp at h⟩⟩
    · obtain ⟨x, y, h1, h2, h3, h4⟩ := both2 k a b (by omega) c.2.2 c.1.1.1 c.1.1.2 c.1.2.1 c.1.2.2
      exact ⟨(x, y), fun _ _ _ _ => ⟨h1, h2, h3, h4⟩⟩
  · exact ⟨(0, 0), fun h1 h2 h3 h4 => absurd ⟨⟨h1, h2⟩, h3, h4⟩ c⟩
theorem ap1_ex (k a : Int) : ∃ x : Int, B64 a → 1 ≤ k → k ≤ 15 → (∀ b w, papply_ k a b w x 0) ∧ (∀ b w, apply_ k a b w x 0) ∧ B64 x := by
  by_cases c : B64 a ∧ 1 ≤ k ∧ k ≤ 15
  · obtain ⟨x, h1, h2, h3⟩ := both1 k a c.2.1 c.2.2 c.1.1 c.1.2
    exact ⟨x, fun _ _ _ => ⟨h1, h2, h3⟩⟩
  · exact ⟨0, fun h1 h2 h3 => absurd ⟨h1, h2, h3⟩ c⟩
noncomputable def apF (k a b : Int) : Int × Int := if k ≤ 15 then (Classical.choose (ap1_ex k a), 0) else Classical.choose (ap_ex k a b)
theorem apF_one {k a : Int} (h1 : 1 ≤ k) (h2 : k ≤ 15) (ha : B64 a) (b c : Int) (w : World) : papply_ k a b w (apF k a c).1 (apF k a c).2 ∧ apply_ k a b w (apF k a c).1 (apF k a c).2 ∧ B64 (apF k a c).1 ∧ (apF k a c).2 = 0 := by
  have h := Classical.choose_spec (ap1_ex k a) ha h1 h2
  unfold apF
  rw [if_pos h2]
  exact ⟨h.1 b w, h.2.1 b w, h.2.2, rfl⟩
theorem apF_two {k a b : Int} (h1 : 16 ≤ k) (h2 : k ≤ 36) (ha : B64 a) (hb : B64 b) (w : World) : papply_ k a b w (apF k a b).1 (apF k a b).2 ∧ apply_ k a b w (apF k a b).1 (apF k a b).2 ∧ B64 (apF k a b).1 ∧ ((apF k a b).2 = 20 → k = 19 ∨ k = 20) ∧ ((apF k a b).2 = 21 → k = 25 ∨ k = 26 ∨ k = 27) := by
  have h := Classical.choose_spec (ap_ex k a b) ha hb (by omega) h2
  unfold apF
  rw [if_neg (by omega)]
  exact ⟨h.1 w, h.2.1 w, h.2.2⟩
end Go.Proofs.YtjcmhaaohdmjpaaDoor.word
