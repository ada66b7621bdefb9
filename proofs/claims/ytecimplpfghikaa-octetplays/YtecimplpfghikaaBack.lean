/- Numbers there and back on plain numbers: what Put writes is read as it was; what is read is what Put writes. And Get, at every place. -/
import Derived.Test.YtecimplpfghikaaGet
namespace Go.Proofs.Ytecimplpfghikaa.octet
open Go.ChangeShapes Go.WideShapes Go.ChangeAt Go.RowKit
open wrapped
set_option linter.unusedVariables false
theorem val_congr (g h : Nat → Nat) (k : Nat) (e : ∀ i, i < k → g i = h i) : val g k = val h k := by
  induction k with
  | zero => rfl
  | succ k ih => show val g k + _ = val h k + _; rw [ih fun i hi => e i (by omega), e k (by omega)]
theorem gr_mod (x i : Nat) : gr x i % 128 = x / 128 ^ i % 128 := by unfold gr; split <;> omega
theorem val_gr (x k : Nat) : val (gr x) k = x % 128 ^ k := by
  induction k with
  | zero => show 0 = x % 1; omega
  | succ k ih => show val (gr x) k + gr x k % 128 * 128 ^ k = _; rw [ih, gr_mod, Nat.pow_succ, Nat.mod_mul, Nat.mul_comm (128 ^ k)]
theorem out_gr_more (x k : Nat) (hx : x < 18446744073709551616) (h : k + 1 < szN x) : out (gr x) (szN x) k = none := by
  have hb := szN_bd x hx
  unfold out
  rw [if_neg (by omega), if_neg (by omega), if_pos (by rw [gr_more x k h]; omega)]
theorem out_gr_last (x : Nat) (hx : x < 18446744073709551616) : out (gr x) (szN x) (szN x - 1) = some (x, szN x, 0) := by
  have hb := szN_bd x hx
  obtain ⟨e, hl⟩ := gr_last x hx
  obtain ⟨p1, p2⟩ := sz_pow x hx
  have h9 : ¬ (szN x - 1 = 9 ∧ 1 < gr x (szN x - 1)) := by
    rintro ⟨h1, h2⟩
    rw [e, h1] at h2
    have : x / 128 ^ 9 ≤ 1 := by
      have h3 : (128 : Nat) ^ 9 = 9223372036854775808 := by decide
      rw [h3]; omega
    omega
  have h0 : ¬ (gr x (szN x - 1) = 0 ∧ 0 < szN x - 1) := by
    rintro ⟨h1, h2⟩
    have h3 := p2 (by omega)
    rw [e] at h1
    have h4 : 0 < x / 128 ^ (szN x - 1) := Nat.div_pos h3 (Nat.pow_pos (by decide))
    omega
  unfold out
  rw [if_neg (by omega), if_neg h9, if_neg (by omega), if_neg h0, show szN x - 1 + 1 = szN x by omega, val_gr, Nat.mod_eq_of_lt p1]
theorem run_gr (x : Nat) (hx : x < 18446744073709551616) : run (gr x) (szN x) 10 0 = (x, szN x, 0) := by
  have hb := szN_bd x hx
  have h : ∀ k, k ≤ szN x - 1 → run (gr x) (szN x) (10 - k) k = run (gr x) (szN x) 10 0 := by
    intro k
    induction k with
    | zero => intro _; rfl
    | succ k ih => intro hk; rw [← run_none (by omega) (out_gr_more x k hx (by omega))]; exact ih (by omega)
  rw [← h (szN x - 1) (Nat.le_refl _), run_some (by omega) (out_gr_last x hx)]
theorem run_congr (g h : Nat → Nat) (m : Nat) (e : ∀ i, i < m → g i = h i) (fuel k : Nat) (hk : k ≤ m) : run g m fuel k = run h m fuel k := by
  induction fuel generalizing k with
  | zero => rfl
  | succ fuel ih =>
    have ho : out g m k = out h m k := by
      by_cases h1 : k = m
      · unfold out; rw [if_pos h1, if_pos h1]
      · unfold out; rw [if_neg h1, if_neg h1, e k (by omega), val_congr g h (k + 1) fun i hi => e i (by omega)]
    show (match out g m k with | some r => r | none => run g m fuel (k + 1)) = (match out h m k with | some r => r | none => run h m fuel (k + 1))
    rw [← ho]
    by_cases h1 : k = m
    · have : out g m k = some (0, 0, 10) := by unfold out; rw [if_pos h1]
      rw [this]
    · rw [ih (k + 1) (by omega)]
/-- What Put wrote behind n bytes is read there. -/
theorem run_back (f : Nat → Nat) (n x : Nat) (hx : x < 18446744073709551616) : run (fun i => cat f n (gr x) (n + i)) (n + szN x - n) 10 0 = (x, szN x, 0) := by
  rw [show n + szN x - n = szN x by omega, ← run_gr x hx]
  refine run_congr _ _ _ (fun i _ => ?_) 10 0 (by omega)
  show cat f n (gr x) (n + i) = _
  unfold cat; rw [if_neg (by omega), show n + i - n = i by omega]
theorem sz_unique (x k : Nat) (hx : x < 18446744073709551616) (h1 : k = 0 ∨ 128 ^ k ≤ x) (h2 : x < 128 ^ (k + 1)) : szN x = k + 1 := by
  have hb := szN_bd x hx
  obtain ⟨p1, p2⟩ := sz_pow x hx
  rcases Nat.lt_trichotomy (szN x) (k + 1) with h | h | h
  · have h3 : 128 ^ szN x ≤ 128 ^ k := Nat.pow_le_pow_right (by decide) (by omega)
    rcases h1 with h1 | h1 <;> omega
  · exact h
  · have h3 : 128 ^ (k + 1) ≤ 128 ^ (szN x - 1) := Nat.pow_le_pow_right (by decide) (by omega)
    have := p2 (by omega)
    omega
/-- What a number that was read is. -/
theorem run_spec (g : Nat → Nat) (m fuel k : Nat) (hk : k + fuel ≤ 10) (hm : k ≤ m) (hc : ∀ i, i < k → 128 ≤ g i) :
    (run g m fuel k).2.2 = 0 ∧ (∃ c, k ≤ c ∧ c ≤ 9 ∧ c < m ∧ (∀ i, i < c → 128 ≤ g i) ∧ g c < 128 ∧ (c = 0 ∨ 0 < g c) ∧ (c = 9 → g c ≤ 1) ∧ run g m fuel k = (val g (c + 1), c + 1, 0)) ∨
    (∃ e, 10 ≤ e ∧ e ≤ 12 ∧ run g m fuel k = (0, 0, e)) := by
  induction fuel generalizing k with
  | zero => exact .inr ⟨11, by omega, by omega, rfl⟩
  | succ fuel ih =>
    have hrun : run g m (fuel + 1) k = (match out g m k with | some r => r | none => run g m fuel (k + 1)) := rfl
    by_cases h1 : k = m
    · right; refine ⟨10, by omega, by omega, ?_⟩; rw [hrun]; unfold out; rw [if_pos h1]
    · by_cases h2 : k = 9 ∧ 1 < g k
      · right; refine ⟨11, by omega, by omega, ?_⟩; rw [hrun]; unfold out; rw [if_neg h1, if_pos h2]
      · by_cases h3 : 128 ≤ g k
        · have ho : out g m k = none := by unfold out; rw [if_neg h1, if_neg h2, if_pos h3]
          rw [hrun, ho]
          rcases ih (k + 1) (by omega) (by omega) (fun i hi => by rcases Nat.lt_or_ge i k with h | h; exact hc i h; exact (show i = k by omega) ▸ h3) with ⟨e, c, h⟩ | h
          · exact .inl ⟨e, c, by omega, h.2⟩
          · exact .inr h
        · by_cases h4 : g k = 0 ∧ 0 < k
          · right; refine ⟨12, by omega, by omega, ?_⟩; rw [hrun]; unfold out; rw [if_neg h1, if_neg h2, if_neg h3, if_pos h4]
          · have ho : out g m k = some (val g (k + 1), k + 1, 0) := by unfold out; rw [if_neg h1, if_neg h2, if_neg h3, if_neg h4]
            left
            rw [hrun, ho]
            exact ⟨rfl, k, by omega, by omega, by omega, hc, by omega, by omega, by omega, rfl⟩
theorem val_div (g : Nat → Nat) (i : Nat) : ∀ k, i < k → val g k / 128 ^ i % 128 = g i % 128 := by
  intro k
  induction k with
  | zero => intro h; omega
  | succ k ih =>
    intro hi
    show (val g k + g k % 128 * 128 ^ k) / 128 ^ i % 128 = _
    by_cases h : i = k
    · subst h
      rw [Nat.add_mul_div_right _ _ (Nat.pow_pos (by decide)), Nat.div_eq_of_lt (val_lt g i), Nat.zero_add, Nat.mod_mod]
    · have e : g k % 128 * 128 ^ k = g k % 128 * 128 ^ (k - i - 1) * 128 * 128 ^ i := by
        rw [Nat.mul_assoc, Nat.mul_assoc, ← Nat.pow_succ', ← Nat.pow_add]
        congr 2; omega
      rw [e, Nat.add_mul_div_right _ _ (Nat.pow_pos (by decide)), Nat.add_mul_mod_self_right]
      exact ih (by omega)
/-- A number that was read has just the bytes that it was read from. -/
theorem once (g : Nat → Nat) (c : Nat) (hc : c ≤ 9) (h1 : ∀ i, i < c → 128 ≤ g i) (hb : ∀ i, g i < 256) (h2 : g c < 128) (h3 : c = 0 ∨ 0 < g c) (h4 : c = 9 → g c ≤ 1) :
    val g (c + 1) < 18446744073709551616 ∧ szN (val g (c + 1)) = c + 1 ∧ ∀ i, i < c + 1 → gr (val g (c + 1)) i = g i := by
  have hv : val g (c + 1) = val g c + g c * 128 ^ c := by show val g c + g c % 128 * 128 ^ c = _; rw [Nat.mod_eq_of_lt h2]
  have hl := val_lt g c
  have hx : val g (c + 1) < 18446744073709551616 := by
    by_cases h9 : c = 9
    · subst h9
      rw [hv]
      have e : (128 : Nat) ^ 9 = 9223372036854775808 := by decide
      rw [e] at hl ⊢
      have := h4 rfl
      omega
    · exact Nat.lt_of_lt_of_le (val_lt g (c + 1)) (Nat.le_trans (Nat.pow_le_pow_right (by decide) (show c + 1 ≤ 9 by omega)) (by decide))
  have hs : szN (val g (c + 1)) = c + 1 := by
    refine sz_unique _ c hx ?_ (val_lt g (c + 1))
    rcases h3 with h | h
    · exact .inl h
    · right; rw [hv]
      have : 1 * 128 ^ c ≤ g c * 128 ^ c := Nat.mul_le_mul_right _ h
      omega
  refine ⟨hx, hs, fun i hi => ?_⟩
  have hm := val_div g i (c + 1) hi
  unfold gr
  rw [hs, hm]
  by_cases h : i < c
  · rw [if_pos (by omega)]; have := h1 i h; have := hb i; omega
  · rw [if_neg (by omega), show i = c by omega]; omega
/-- What Get answers at every place. -/
def gotten (f : Nat → Nat) (n : Nat) (at_ : Int) : Int × Int × Int := if 0 ≤ at_ ∧ at_ ≤ n then res at_.toNat (run (fun i => f (at_.toNat + i)) (n - at_.toNat) 10 0) else (0, 0, 1)
theorem get_any (a : Option Addr) (n c : Nat) (at_ : Int) (f : Nat → Nat) (w : World) (hr : Row w a n f) (X E R : Int) (h : gotten f n at_ = (X, E, R)) (l1 : -9223372036854775808 ≤ at_) (l2 : at_ ≤ 9223372036854775807) :
    Calls Try.prog 17 #[.slice a n c, .int .i64 at_] w fun e w' => e = .returned (.tuple #[.int .u64 X, .int .i64 E, .int .i64 R]) ∧ w' = w := by
  unfold gotten at h
  by_cases hb : 0 ≤ at_ ∧ at_ ≤ n
  · rw [if_pos hb] at h
    have e : at_ = ((at_.toNat : Nat) : Int) := by omega
    have := get_walk a n c at_.toNat f w hr (by omega) (by have := hr.1; omega) X E R h
    rwa [← e] at this
  · rw [if_neg hb] at h
    simp only [Prod.mk.injEq] at h
    obtain ⟨rfl, rfl, rfl⟩ := h
    have hn : (n : Int) ≤ 9223372036854775807 := by have := hr.1; omega
    clear hr
    by_cases h0 : at_ < 0
    · clear hb
      go_enter Try.func17, Try.ntmps17
      go_wp2_with (go_in)
      go_ret3
      exact ⟨rfl, rfl⟩
    · have h1 : (n : Int) < at_ := by omega
      have h2 : decide (at_ ≤ (n : Int)) = false := decide_eq_false (by omega)
      clear hb
      go_enter Try.func17, Try.ntmps17
      go_wp2_with (go_in)
      go_ret3
      exact ⟨rfl, rfl⟩
theorem gotten_bd (f : Nat → Nat) (hf : ∀ i, f i < 256) (n : Nat) (at_ X E R : Int) (h : gotten f n at_ = (X, E, R)) : 0 ≤ X ∧ X < 18446744073709551616 := by
  unfold gotten at h
  by_cases hb : 0 ≤ at_ ∧ at_ ≤ n
  · rw [if_pos hb] at h
    rcases run_spec (fun i => f (at_.toNat + i)) (n - at_.toNat) 10 0 (by omega) (by omega) (fun i hi => by omega) with ⟨_, c, _, h9, _, h1, h2, h3, h4, e⟩ | ⟨e', _, _, e⟩
    · have := (once (fun i => f (at_.toNat + i)) c h9 h1 (fun i => hf _) h2 h3 h4).1
      rw [e] at h
      unfold res at h
      simp only [Prod.mk.injEq] at h
      omega
    · rw [e] at h
      unfold res at h
      simp only [Prod.mk.injEq] at h
      omega
  · rw [if_neg hb] at h
    simp only [Prod.mk.injEq] at h
    omega
theorem getint_any (a : Option Addr) (n c : Nat) (at_ : Int) (f : Nat → Nat) (w : World) (hr : Row w a n f) (X E R : Int) (h : gotten f n at_ = (X, E, R)) (l1 : -9223372036854775808 ≤ at_) (l2 : at_ ≤ 9223372036854775807) (Y : Int) (hY : zb X = Y) :
    Calls Try.prog 19 #[.slice a n c, .int .i64 at_] w fun e w' => e = .returned (.tuple #[.int .i64 Y, .int .i64 E, .int .i64 R]) ∧ w' = w := by
  have c1 := get_any a n c at_ f w hr X E R h l1 l2
  obtain ⟨b0, b1⟩ := gotten_bd f hr.2.1 n at_ X E R h
  have c2 := zag_any X b0 b1
  rw [hY] at c2
  clear h hr hY l1 l2
  go_enter Try.func19, Try.ntmps19
  go_wp2_with (first | (go_at_call 17; with_reducible refine c1.mono ?_; rintro e w' ⟨rfl, hw⟩; replace hw := hw.symm; subst hw) | (go_at_call 34; with_reducible refine (c2 _).mono ?_; rintro e w' ⟨rfl, hw⟩; replace hw := hw.symm; subst hw))
  go_ret3
  exact ⟨rfl, rfl⟩
theorem zb_zg (y : Int) : zb (zg y) = y := by unfold zb zg; split <;> split <;> omega
theorem zg_zb (u : Int) (h : 0 ≤ u) : zg (zb u) = u := by unfold zb zg; split <;> split <;> omega
theorem zb_bd (u : Int) (h : 0 ≤ u) (g : u < 18446744073709551616) : -9223372036854775808 ≤ zb u ∧ zb u ≤ 9223372036854775807 := by unfold zb; split <;> omega
/-- What Put wrote is read, and the place behind it. -/
theorem gotten_back (f : Nat → Nat) (n x : Nat) (hx : x < 18446744073709551616) : gotten (cat f n (gr x)) (n + szN x) (n : Int) = ((x : Int), ((n + szN x : Nat) : Int), 0) := by
  unfold gotten
  rw [if_pos (by omega), Int.toNat_natCast, run_back f n x hx]
  unfold res
  simp
end Go.Proofs.Ytecimplpfghikaa.octet
