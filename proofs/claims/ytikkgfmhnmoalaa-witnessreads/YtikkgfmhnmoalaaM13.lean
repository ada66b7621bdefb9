/- Numbers there and back on plain numbers: what Put writes is read as it was; what is read is what Put writes. And Get, at every place. -/
import Derived.Test.YtikkgfmhnmoalaaM12
import Derived.Test.YtikkgfmhnmoalaaM5
import Derived.Laws.BytesArg
namespace Go.Proofs.Ytikkgfmhnmoalaa.octet
open Go.ChangeShapes Go.WideShapes Go.ChangeAt Go.RowKit
open wrapped
set_option linter.unusedVariables false
theorem val_congr (g h : Nat → Nat) (k : Nat) (e : ∀ i, i < k → g i = h i) : val g k = val h k := by
  induction k with
  | zero => rfl
  | succ k ih => show val g k + _ = val h k + _; rw [ih fun i hi => e i (by omega), e k (by omega)]
theorem gr_mod (x i : Nat) : gr x i % 128 = x / 128 ^ i % 128 := by unfold gr; split <;> omega
theorem val_gr (x k : Nat) : val (gr x) k = x % 128 ^ k := by
  induction k with
  | zero => show 0 = x % 1; omega
  | succ k ih => show val (gr x) k + gr x k % 128 * 128 ^ k = _; rw [ih, gr_mod, Nat.pow_succ, Nat.mod_mul, Nat.mul_comm (128 ^ k)]
theorem out_gr_more (x k : Nat) (hx : x < 18446744073709551616) (h : k + 1 < szN x) : out (gr x) (szN x) k = none := by
  have hb := szN_bd x hx
  unfold out
  rw [if_neg (by omega), if_neg (by omega), if_pos (by rw [gr_more x k h]; omega)]
theorem out_gr_last (x : Nat) (hx : x < 18446744073709551616) : out (gr x) (szN x) (szN x - 1) = some (x, szN x, 0) := by
  have hb := szN_bd x hx
  obtain ⟨e, hl⟩ := gr_last x hx
  obtain ⟨p1, p2⟩ := sz_pow x hx
  have h9 : ¬ (szN x - 1 = 9 ∧ 1 < gr x (szN x - 1)) := by
    rintro ⟨h1, h2⟩
    rw [e, h1] at h2
    have : x / 128 ^ 9 ≤ 1 := by
      have h3 : (128 : Nat) ^ 9 = 9223372036854775808 := by decide
      rw [h3]; omega
    omega
  have h0 : ¬ (gr x (szN x - 1) = 0 ∧ 0 < szN x - 1) := by
    rintro ⟨h1, h2⟩
    have h3 := p2 (by omega)
    rw [e] at h1
    have h4 : 0 < x / 128 ^ (szN x - 1) := Nat.div_pos h3 (Nat.pow_pos (by decide))
    omega
  unfold out
  rw [if_neg (by omega), if_neg h9, if_neg (by omega), if_neg h0, show szN x - 1 + 1 = szN x by omega, val_gr, Nat.mod_eq_of_lt p1]
theorem run_gr (x : Nat) (hx : x < 18446744073709551616) : run (gr x) (szN x) 10 0 = (x, szN x, 0) := by
  have hb := szN_bd x hx
  have h : ∀ k, k ≤ szN x - 1 → run (gr x) (szN x) (10 - k) k = run (gr x) (szN x) 10 0 := by
    intro k
    induction k with
    | zero => intro _; rfl
    | succ k ih => intro hk; rw [← run_none (by omega) (out_gr_more x k hx (by omega))]; exact ih (by omega)
  rw [← h (szN x - 1) (Nat.le_refl _), run_some (by omega) (out_gr_last x hx)]
theorem run_congr (g h : Nat → Nat) (m : Nat) (e : ∀ i, i < m → g i = h i) (fuel k : Nat) (hk : k ≤ m) : run g m fuel k = run h m fuel k := by
  induction fuel generalizing k with
  | zero => rfl
  | succ fuel ih =>
    have ho : out g m k = out h m k := by
      by_cases h1 : k = m
      · unfold out; rw [if_pos h1, if_pos h1]
      · unfold out; rw [if_neg h1, if_neg h1, e k (by omega), val_congr g h (k + 1) fun i hi => e i (by omega)]
    show (match out g m k with | some r => r | none => run g m fuel (k + 1)) = (match out h m k with | some r => r | none => run h m fuel (k + 1))
    rw [← ho]
    by_cases h1 : k = m
    · have : out g m k = some (0, 0, 10) := by unfold out; rw [if_pos h1]
      rw [this]
    · rw [ih (k + 1) (by omega)]
/-- What Put wrote behind n bytes is read there. -/
theorem run_back (f : Nat → Nat) (n x : Nat) (hx : x < 18446744073709551616) : run (fun i => cat f n (gr x) (n + i)) (n + szN x - n) 10 0 = (x, szN x, 0) := by
  rw [show n + szN x - n = szN x by omega, ← run_gr x hx]
  refine run_congr _ _ _ (fun i _ => ?_) 10 0 (by omega)
  show cat f n (gr x) (n + i) = _
  unfold cat; rw [if_neg (by omega), show n + i - n = i by omega]
theorem sz_unique (x k : Nat) (hx : x < 18446744073709551616) (h1 : k = 0 ∨ 128 ^ k ≤ x) (h2 : x < 128 ^ (k + 1)) : szN x = k + 1 := by
  have hb := szN_bd x hx
  obtain ⟨p1, p2⟩ := sz_pow x hx
  rcases Nat.lt_trichotomy (szN x) (k + 1) with h | h | h
  · have h3 : 128 ^ szN x ≤ 128 ^ k := Nat.pow_le_pow_right (by decide) (by omega)
    rcases h1 with h1 | h1 <;> omega
  · exact h
  · have h3 : 128 ^ (k + 1) ≤ 128 ^ (szN x - 1) := Nat.pow_le_pow_right (by decide) (by omega)
    have := p2 (by omega)
    omega
/-- What a number that was read is. -/
theorem run_spec (g : Nat → Nat) (m fuel k : Nat) (hk : k + fuel ≤ 10) (hm : k ≤ m) (hc : ∀ i, i < k → 128 ≤ g i) :
    (run g m fuel k).2.2 = 0 ∧ (∃ c, k ≤ c ∧ c ≤ 9 ∧ c < m ∧ (∀ i, i < c → 128 ≤ g i) ∧ g c < 128 ∧ (c = 0 ∨ 0 < g c) ∧ (c = 9 → g c ≤ 1) ∧ run g m fuel k = (val g (c + 1), c + 1, 0)) ∨
    (∃ e, 10 ≤ e ∧ e ≤ 12 ∧ run g m fuel k = (0, 0, e)) := by
  induction fuel generalizing k with
  | zero => exact .inr ⟨11, by omega, by omega, rfl⟩
  | succ fuel ih =>
    have hrun : run g m (fuel + 1) k = (match out g m k with | some r => r | none => run g m fuel (k + 1)) := rfl
    by_cases h1 : k = m
    · right; refine ⟨10, by omega, by omega, ?_⟩; rw [hrun]; unfold out; rw [if_pos h1]
    · by_cases h2 : k = 9 ∧ 1 < g k
      · right; refine ⟨11, by omega, by omega, ?_⟩; rw [hrun]; unfold out; rw [if_neg h1, if_pos h2]
      · by_cases h3 : 128 ≤ g k
        · have ho : out g m k = none := by unfold out; rw [if_neg h1, if_neg h2, if_pos h3]
          rw [hrun, ho]
          rcases ih (k + 1) (by omega) (by omega) (fun i hi => by rcases Nat.lt_or_ge i k with h | h; exact hc i h; exact (show i = k by omega) ▸ h3) with ⟨e, c, h⟩ | h
          · exact .inl ⟨e, c, by omega, h.2⟩
          · exact .inr h
        · by_cases h4 : g k = 0 ∧ 0 < k
          · right; refine ⟨12, by omega, by omega, ?_⟩; rw [hrun]; unfold out; rw [if_neg h1, if_neg h2, if_neg h3, if_pos h4]
          · have ho : out g m k = some (val g (k + 1), k + 1, 0) := by unfold out; rw [if_neg h1, if_neg h2, if_neg h3, if_neg h4]
            left
            rw [hrun, ho]
            exact ⟨rfl, k, by omega, by omega, by omega, hc, by omega, by omega, by omega, rfl⟩
theorem val_div (g : Nat → Nat) (i : Nat) : ∀ k, i < k → val g k / 128 ^ i % 128 = g i % 128 := by
  intro k
  induction k with
  | zero => intro h; omega
  | succ k ih =>
    intro hi
    show (val g k + g k % 128 * 128 ^ k) / 128 ^ i % 128 = _
    by_cases h : i = k
    · subst h
      rw [Nat.add_mul_div_right _ _ (Nat.pow_pos (by decide)), Nat.div_eq_of_lt (val_lt g i), Nat.zero_add, Nat.mod_mod]
    · have e : g k % 128 * 128 ^ k = g k % 128 * 128 ^ (k - i - 1) * 128 * 128 ^ i := by
        rw [Nat.mul_assoc, Nat.mul_assoc, ← Nat.pow_succ', ← Nat.pow_add]
        congr 2; omega
      rw [e, Nat.add_mul_div_right _ _ (Nat.pow_pos (by decide)), Nat.add_mul_mod_self_right]
      exact ih (by omega)
/-- A number that was read has just the bytes that it was read from. -/
theorem once (g : Nat → Nat) (c : Nat) (hc : c ≤ 9) (h1 : ∀ i, i < c → 128 ≤ g i) (hb : ∀ i, g i < 256) (h2 : g c < 128) (h3 : c = 0 ∨ 0 < g c) (h4 : c = 9 → g c ≤ 1) :
    val g (c + 1) < 18446744073709551616 ∧ szN (val g (c + 1)) = c + 1 ∧ ∀ i, i < c + 1 → gr (val g (c + 1)) i = g i := by
  have hv : val g (c + 1) = val g c + g c * 128 ^ c := by show val g c + g c % 128 * 128 ^ c = _; rw [Nat.mod_eq_of_lt h2]
  have hl := val_lt g c
  have hx : val g (c + 1) < 18446744073709551616 := by
    by_cases h9 : c = 9
    · subst h9
      rw [hv]
      have e : (128 : Nat) ^ 9 = 9223372036854775808 := by decide
      rw [e] at hl ⊢
      have := h4 rfl
      omega
    · exact Nat.lt_of_lt_of_le (val_lt g (c + 1)) (Nat.le_trans (Nat.pow_le_pow_right (by decide) (show c + 1 ≤ 9 by omega)) (by decide))
  have hs : szN (val g (c + 1)) = c + 1 := by
    refine sz_unique _ c hx ?_ (val_lt g (c + 1))
    rcases h3 with h | h
    · exact .inl h
    · right; rw [hv]
      have : 1 * 128 ^ c ≤ g c * 128 ^ c := Nat.mul_le_mul_right _ h
      omega
  refine ⟨hx, hs, fun i hi => ?_⟩
  have hm := val_div g i (c + 1) hi
  unfold gr
  rw [hs, hm]
  by_cases h : i < c
  · rw [if_pos (by omega)]; have := h1 i h; have := hb i; omega
  · rw [if_neg (by omega), show i = c by omega]; omega
/-- What Get answers at every place. -/
def gotten (f : Nat → Nat) (n : Nat) (at_ : Int) : Int × Int × Int := if 0 ≤ at_ ∧ at_ ≤ n then res at_.toNat (run (fun i => f (at_.toNat + i)) (n - at_.toNat) 10 0) else (0, 0, 1)
theorem get_any (a : Option Addr) (n c : Nat) (at_ : Int) (f : Nat → Nat) (w : World) (hr : Row w a n f) (X E R : Int) (h : gotten f n at_ = (X, E, R)) (l1 : -9223372036854775808 ≤ at_) (l2 : at_ ≤ 9223372036854775807) :
    Calls Try.prog 58 #[.slice a n c, .int .i64 at_] w fun e w' => e = .returned (.tuple #[.int .u64 X, .int .i64 E, .int .i64 R]) ∧ w' = w := by
  unfold gotten at h
  by_cases hb : 0 ≤ at_ ∧ at_ ≤ n
  · rw [if_pos hb] at h
    have e : at_ = ((at_.toNat : Nat) : Int) := by omega
    have := get_walk a n c at_.toNat f w hr (by omega) (by have := hr.1; omega) X E R h
    rwa [← e] at this
  · rw [if_neg hb] at h
    simp only [Prod.mk.injEq] at h
    obtain ⟨rfl, rfl, rfl⟩ := h
    have hn : (n : Int) ≤ 9223372036854775807 := by have := hr.1; omega
    clear hr
    by_cases h0 : at_ < 0
    · clear hb
      go_enter Try.func58, Try.ntmps58
      go_wp2_with (go_in)
      go_ret3
      exact ⟨rfl, rfl⟩
    · have h1 : (n : Int) < at_ := by omega
      have h2 : decide (at_ ≤ (n : Int)) = false := decide_eq_false (by omega)
      clear hb
      go_enter Try.func58, Try.ntmps58
      go_wp2_with (go_in)
      go_ret3
      exact ⟨rfl, rfl⟩
theorem gotten_bd (f : Nat → Nat) (hf : ∀ i, f i < 256) (n : Nat) (at_ X E R : Int) (h : gotten f n at_ = (X, E, R)) : 0 ≤ X ∧ X < 18446744073709551616 := by
  unfold gotten at h
  by_cases hb : 0 ≤ at_ ∧ at_ ≤ n
  · rw [if_pos hb] at h
    rcases run_spec (fun i => f (at_.toNat + i)) (n - at_.toNat) 10 0 (by omega) (by omega) (fun i hi => by omega) with ⟨_, c, _, h9, _, h1, h2, h3, h4, e⟩ | ⟨e', _, _, e⟩
    · have := (once (fun i => f (at_.toNat + i)) c h9 h1 (fun i => hf _) h2 h3 h4).1
      rw [e] at h
      unfold res at h
      simp only [Prod.mk.injEq] at h
      omega
    · rw [e] at h
      unfold res at h
      simp only [Prod.mk.injEq] at h
      omega
  · rw [if_neg hb] at h
    simp only [Prod.mk.injEq] at h
    omega
theorem zb_zg (y : Int) : zb (zg y) = y := by unfold zb zg; split <;> split <;> omega
theorem zg_zb (u : Int) (h : 0 ≤ u) : zg (zb u) = u := by unfold zb zg; split <;> split <;> omega
theorem zb_bd (u : Int) (h : 0 ≤ u) (g : u < 18446744073709551616) : -9223372036854775808 ≤ zb u ∧ zb u ≤ 9223372036854775807 := by unfold zb; split <;> omega
/-- What Put wrote is read, and the place behind it. -/
theorem gotten_back (f : Nat → Nat) (n x : Nat) (hx : x < 18446744073709551616) : gotten (cat f n (gr x)) (n + szN x) (n : Int) = ((x : Int), ((n + szN x : Nat) : Int), 0) := by
  unfold gotten
  rw [if_pos (by omega), Int.toNat_natCast, run_back f n x hx]
  unfold res
  simp
end Go.Proofs.Ytikkgfmhnmoalaa.octet
/- The numbers of a witness, read from bytes: pure. -/
namespace Go.Proofs.Ytikkgfmhnmoalaa.pg
open Go.ChangeShapes Go.WideShapes Go.ChangeAt Go.RowKit
set_option linter.unusedVariables false
set_option linter.unusedSimpArgs false
set_option maxRecDepth 100000
set_option linter.unusedVariables false
set_option linter.unusedSimpArgs false
/-- These bytes lie at place k. -/
def Has (f : Nat → Nat) (n k : Nat) (L : List Nat) : Prop := k + L.length ≤ n ∧ ∀ (i b : Nat), L[i]? = some b → f (k + i) = b
theorem Has.nil {f : Nat → Nat} {n k : Nat} (h : k ≤ n) : Has f n k [] := ⟨by simpa using h, by simp⟩
theorem Has.app {f : Nat → Nat} {n k : Nat} {L M : List Nat} : Has f n k (L ++ M) ↔ Has f n k L ∧ Has f n (k + L.length) M := by
  constructor
  · rintro ⟨h1, h2⟩
    rw [List.length_append] at h1
    refine ⟨⟨by omega, fun i b hb => h2 i b ?_⟩, by omega, fun i b hb => ?_⟩
    · rw [List.getElem?_append_left (List.getElem?_eq_some_iff.mp hb).1]; exact hb
    · have := h2 (L.length + i) b (by rw [List.getElem?_append_right (by omega), Nat.add_sub_cancel_left]; exact hb)
      rwa [← Nat.add_assoc] at this
  · rintro ⟨⟨h1, h2⟩, h3, h4⟩
    refine ⟨by rw [List.length_append]; omega, fun i b hb => ?_⟩
    by_cases hi : i < L.length
    · rw [List.getElem?_append_left hi] at hb; exact h2 i b hb
    · rw [List.getElem?_append_right (by omega)] at hb
      have := h4 _ _ hb
      rwa [show k + L.length + (i - L.length) = k + i by omega] at this
theorem putB_get (x i : Nat) (h : i < octet.szN x) : (putB x)[i]? = some (octet.gr x i) := by simp [putB, h]
theorem run_has (g : Nat → Nat) (m x : Nat) (hx : x < 18446744073709551616) (hm : octet.szN x ≤ m) (h : ∀ i, i < octet.szN x → g i = octet.gr x i) : octet.run g m 10 0 = (x, octet.szN x, 0) := by
  have hb := octet.szN_bd x hx
  have key : ∀ d k, k + d + 1 = octet.szN x → octet.run g m (10 - k) k = (x, octet.szN x, 0) := by
    intro d
    induction d with
    | zero =>
      intro k hk
      have h1 := octet.out_gr_last x hx
      rw [show octet.szN x - 1 = k by omega] at h1
      refine octet.run_some (by omega) ?_
      have hv : octet.val g (k + 1) = octet.val (octet.gr x) (k + 1) := octet.val_congr _ _ _ fun i hi => h i (by omega)
      unfold octet.out at h1 ⊢
      rw [h k (by omega), hv]
      rw [if_neg (show ¬ k = octet.szN x by omega)] at h1
      rw [if_neg (show ¬ k = m by omega)]
      exact h1
    | succ d ih =>
      intro k hk
      have h1 := octet.out_gr_more x k hx (by omega)
      have h2 : octet.out g m k = none := by
        unfold octet.out at h1 ⊢
        rw [h k (by omega)]
        rw [if_neg (show ¬ k = octet.szN x by omega)] at h1
        rw [if_neg (show ¬ k = m by omega)]
        split at h1
        · simp at h1
        · rename_i q
          rw [if_neg q]
          split at h1
          · rename_i q2; rw [if_pos q2]
          · exfalso; split at h1 <;> simp at h1
      rw [octet.run_none (by omega) h2]
      exact ih (k + 1) (by omega)
  have := key (octet.szN x - 1) 0 (by omega)
  exact this
theorem gotten_has {f : Nat → Nat} {n k x : Nat} (h : Has f n k (putB x)) (hx : x < 18446744073709551616) : octet.gotten f n (k : Int) = ((x : Int), ((k + octet.szN x : Nat) : Int), 0) := by
  have h1 := h.1
  rw [putB_len] at h1
  unfold octet.gotten
  rw [if_pos (by omega), show ((k : Int)).toNat = k by omega, run_has _ _ x hx (by omega) fun i hi => h.2 i _ (putB_get x i hi)]
  simp [octet.res]
theorem gotten_once {f : Nat → Nat} (hf : ∀ i, f i < 256) {n k : Nat} {X E : Int} (h : octet.gotten f n (k : Int) = (X, E, 0)) : ∃ x : Nat, X = x ∧ x < 18446744073709551616 ∧ E = ((k + octet.szN x : Nat) : Int) ∧ Has f n k (putB x) := by
  unfold octet.gotten at h
  by_cases hk : 0 ≤ (k : Int) ∧ (k : Int) ≤ n
  · rw [if_pos hk, show ((k : Int)).toNat = k by omega] at h
    rcases octet.run_spec (fun i => f (k + i)) (n - k) 10 0 (by omega) (by omega) (by intro i hi; omega) with ⟨_, c, _, hc9, hcm, h1, h2, h3, h4, hr⟩ | ⟨e, he1, he2, hr⟩
    · rw [hr] at h
      obtain ⟨o1, o2, o3⟩ := octet.once (fun i => f (k + i)) c hc9 h1 (fun i => hf _) h2 h3 h4
      simp only [octet.res, if_true, Prod.mk.injEq] at h
      refine ⟨octet.val (fun i => f (k + i)) (c + 1), h.1.symm, o1, by rw [← h.2.1, o2], by rw [putB_len, o2]; omega, fun i b hb => ?_⟩
      have hi : i < octet.szN (octet.val (fun i => f (k + i)) (c + 1)) := by have := (List.getElem?_eq_some_iff.mp hb).1; rwa [putB_len] at this
      rw [putB_get _ _ hi] at hb
      simp only [Option.some.injEq] at hb
      rw [← hb]
      exact (o3 i (by omega)).symm
    · rw [hr] at h
      simp only [octet.res, Prod.mk.injEq] at h
      omega
  · rw [if_neg hk] at h
    simp only [Prod.mk.injEq] at h
    omega
/-- What reading numbers comes to: what is wrong, where the last one began, the numbers, the place behind. -/
structure RL where
  e : Int
  at_ : Nat
  vs : List Int
  k : Nat
/-- A number as it is kept. -/
def capI (X : Int) : Int := min X 9223372036854775807
/-- Numbers, each between its bounds, read one behind the other. -/
def rdL (f : Nat → Nat) (n : Nat) : List (Int × Int) → Nat → Nat → RL
  | [], a, k => ⟨0, a, [], k⟩
  | b :: t, a, k =>
    if (octet.gotten f n (k : Int)).2.2 = 0 then
      (if b.1 ≤ capI (octet.gotten f n (k : Int)).1 ∧ capI (octet.gotten f n (k : Int)).1 ≤ b.2 then
        ⟨(rdL f n t k (octet.gotten f n (k : Int)).2.1.toNat).e, (rdL f n t k (octet.gotten f n (k : Int)).2.1.toNat).at_, capI (octet.gotten f n (k : Int)).1 :: (rdL f n t k (octet.gotten f n (k : Int)).2.1.toNat).vs, (rdL f n t k (octet.gotten f n (k : Int)).2.1.toNat).k⟩
      else ⟨1, k, [], (octet.gotten f n (k : Int)).2.1.toNat⟩)
    else ⟨(octet.gotten f n (k : Int)).2.2, k, [], k⟩
theorem rdL_err {f : Nat → Nat} {n : Nat} {b : Int × Int} {t : List (Int × Int)} {a k : Nat} {X E R : Int} (h : octet.gotten f n (k : Int) = (X, E, R)) (hR : R ≠ 0) : rdL f n (b :: t) a k = ⟨R, k, [], k⟩ := by
  rw [rdL, h]
  exact if_neg hR
theorem rdL_bad {f : Nat → Nat} {n : Nat} {b : Int × Int} {t : List (Int × Int)} {a k : Nat} {X E : Int} (h : octet.gotten f n (k : Int) = (X, E, 0)) (hb : ¬ (b.1 ≤ capI X ∧ capI X ≤ b.2)) : rdL f n (b :: t) a k = ⟨1, k, [], E.toNat⟩ := by
  rw [rdL, h]
  rw [if_pos rfl, if_neg hb]
theorem rdL_ok {f : Nat → Nat} {n : Nat} {b : Int × Int} {t : List (Int × Int)} {a k : Nat} {X E : Int} (h : octet.gotten f n (k : Int) = (X, E, 0)) (hb : b.1 ≤ capI X ∧ capI X ≤ b.2) : rdL f n (b :: t) a k = ⟨(rdL f n t k E.toNat).e, (rdL f n t k E.toNat).at_, capI X :: (rdL f n t k E.toNat).vs, (rdL f n t k E.toNat).k⟩ := by
  rw [rdL, h]
  rw [if_pos rfl, if_pos hb]
theorem rdL_app (f : Nat → Nat) (n : Nat) : ∀ (A B : List (Int × Int)) (a k : Nat), rdL f n (A ++ B) a k = if (rdL f n A a k).e = 0 then ⟨(rdL f n B (rdL f n A a k).at_ (rdL f n A a k).k).e, (rdL f n B (rdL f n A a k).at_ (rdL f n A a k).k).at_, (rdL f n A a k).vs ++ (rdL f n B (rdL f n A a k).at_ (rdL f n A a k).k).vs, (rdL f n B (rdL f n A a k).at_ (rdL f n A a k).k).k⟩ else rdL f n A a k
  | [], B, a, k => by simp [rdL]
  | b :: t, B, a, k => by
    obtain ⟨X, E, R, h⟩ : ∃ X E R, octet.gotten f n (k : Int) = (X, E, R) := ⟨_, _, _, rfl⟩
    rw [List.cons_append]
    by_cases hR : R = 0
    · subst hR
      by_cases hb : b.1 ≤ capI X ∧ capI X ≤ b.2
      · rw [rdL_ok h hb, rdL_ok h hb, rdL_app f n t B]
        dsimp only
        by_cases h0 : (rdL f n t k E.toNat).e = 0
        · rw [if_pos h0, if_pos h0]; rfl
        · rw [if_neg h0, if_neg h0]
      · rw [rdL_bad h hb, rdL_bad h hb]
        dsimp only
        rw [if_neg (by decide)]
    · rw [rdL_err h hR, rdL_err h hR]
      dsimp only
      rw [if_neg hR]
/-- Numbers that are read were written so. -/
theorem rdL_once {f : Nat → Nat} (hf : ∀ i, f i < 256) {n : Nat} : ∀ (B : List (Int × Int)) (a k : Nat), k ≤ n → (∀ b ∈ B, 0 ≤ b.1 ∧ b.2 ≤ 65536) → (rdL f n B a k).e = 0 → (rdL f n B a k).vs.length = B.length ∧ (∀ (i : Nat) (b : Int × Int) (v : Int), B[i]? = some b → (rdL f n B a k).vs[i]? = some v → b.1 ≤ v ∧ v ≤ b.2) ∧ Has f n k ((rdL f n B a k).vs.flatMap numB) ∧ (rdL f n B a k).k = k + ((rdL f n B a k).vs.flatMap numB).length ∧ (rdL f n B a k).k ≤ n
  | [], a, k, hk, _, _ => ⟨rfl, by simp, Has.nil hk, by simp [rdL], by simpa [rdL] using hk⟩
  | b :: t, a, k, hk, hB, he => by
    obtain ⟨X, E, R, h⟩ : ∃ X E R, octet.gotten f n (k : Int) = (X, E, R) := ⟨_, _, _, rfl⟩
    by_cases hR : R = 0
    · subst hR
      by_cases hb : b.1 ≤ capI X ∧ capI X ≤ b.2
      · rw [rdL_ok h hb] at he ⊢
        dsimp only at he ⊢
        obtain ⟨x, h1, h2, h3, h4⟩ := gotten_once hf h
        have hbb := hB b (by simp)
        have hX : capI X = (x : Int) ∧ x ≤ 65536 := by subst h1; unfold capI at hb ⊢; omega
        have hnum : numB (x : Int) = putB x := by unfold numB; rw [show ((x : Int) % 18446744073709551616).toNat = x by omega]
        have hE : E.toNat = k + octet.szN x := by omega
        rw [hE] at he ⊢
        have hl4 := h4.1
        rw [putB_len] at hl4
        obtain ⟨q1, q2, q3, q4, q5⟩ := rdL_once hf t k (k + octet.szN x) hl4 (fun b hb => hB b (by simp [hb])) he
        refine ⟨by simp [q1], fun i b' v hb' hv => ?_, ?_, ?_, q5⟩
        · cases i with
          | zero => simp at hb' hv; subst hb' hv; exact hb
          | succ i => exact q2 i b' v (by simpa using hb') (by simpa using hv)
        · rw [List.flatMap_cons, hX.1, hnum]
          refine Has.app.mpr ⟨h4, ?_⟩
          rw [putB_len]; exact q3
        · rw [q4, List.flatMap_cons, List.length_append, hX.1, hnum, putB_len]; omega
      · rw [rdL_bad h hb] at he
        cases he
    · rw [rdL_err h hR] at he
      exact (hR he).elim
/-- Numbers that were written are read. -/
theorem rdL_has {f : Nat → Nat} {n : Nat} : ∀ (L : List (Int × Int × Int)) (a k : Nat), (∀ x ∈ L, 0 ≤ x.1 ∧ x.1 ≤ x.2.2 ∧ x.2.2 ≤ x.2.1 ∧ x.2.1 ≤ 65536) → Has f n k (L.flatMap fun x => numB x.2.2) → (rdL f n (L.map fun x => (x.1, x.2.1)) a k).e = 0 ∧ (rdL f n (L.map fun x => (x.1, x.2.1)) a k).vs = L.map (fun x => x.2.2) ∧ (rdL f n (L.map fun x => (x.1, x.2.1)) a k).k = k + (L.flatMap fun x => numB x.2.2).length
  | [], a, k, _, _ => ⟨rfl, rfl, by simp [rdL]⟩
  | y :: t, a, k, hL, h => by
    have hy := hL y (by simp)
    obtain ⟨x, hx⟩ : ∃ x : Nat, y.2.2 = (x : Int) := ⟨y.2.2.toNat, by omega⟩
    have hnum : numB (x : Int) = putB x := by unfold numB; rw [show ((x : Int) % 18446744073709551616).toNat = x by omega]
    rw [List.flatMap_cons, hx, hnum] at h
    obtain ⟨h1, h2⟩ := Has.app.mp h
    have hg := gotten_has h1 (by omega)
    rw [putB_len] at h2
    obtain ⟨q1, q2, q3⟩ := rdL_has t k (k + octet.szN x) (fun z hz => hL z (by simp [hz])) h2
    have hc : capI (x : Int) = (x : Int) := by unfold capI; omega
    have hE : (((k + octet.szN x : Nat) : Int)).toNat = k + octet.szN x := by omega
    rw [List.map_cons, rdL_ok hg (by dsimp only; rw [hc]; omega), hE]
    refine ⟨q1, ?_, ?_⟩
    · dsimp only
      rw [q2, hc, List.map_cons, hx]
    · dsimp only
      rw [q3, List.flatMap_cons, List.length_append, hx, hnum, putB_len]; omega
end Go.Proofs.Ytikkgfmhnmoalaa.pg
/- Bytes turned into a text, and the contract of the statements' SameBytes. -/
namespace Go.Proofs.Ytikkgfmhnmoalaa.octet
open Go.ChangeShapes Go.WideShapes Go.ChangeAt Go.RowKit
open wrapped
set_option linter.unusedVariables false
/-- The text of n bytes. -/
def strOf (f : Nat → Nat) (n : Nat) : ByteArray := strOfNums ((List.range n).map fun i => ((f i : Nat) : Int))
theorem conv_any (w : World) (a : Option Addr) (n c : Nat) (f : Nat → Nat) (hr : Row w a n f) : (convert 32 9 (.slice a n c)).run Try.prog w = .ok (.string (strOf f n)) w := by
  rcases hr.2.2 with h0 | ⟨b, off, rfl, hc⟩
  · subst h0
    cases a with
    | none => exact run_convert_bytes_nil w 32 5 Try.underlying32 Try.underlying5 0 c 9 Try.underlying9
    | some ad =>
      have hl : (loadCells ad 0).run Try.prog w = .ok #[] w := by simpa using run_loadCells_list (P := Try.prog) w ad [] (fun j v hj => by simp at hj)
      rw [run_convert_bytes_string w 32 9 5 _ 0 c Try.underlying32 Try.underlying5 Try.underlying9, run_bytesToString w _ 0 c [] hl]
      rfl
  · refine run_convert_bytes_arg w 32 5 Try.underlying32 Try.underlying5 b off n c ((List.range n).map fun i => ((f i : Nat) : Int)) (by simp) (fun i hi => ?_) 9 Try.underlying9
    rw [hc i hi]
    simp [List.getD, hi]
/-- Are two lists of bytes the same? -/
def sameB (f : Nat → Nat) (n : Nat) (g : Nat → Nat) (m : Nat) : Bool := (strOf f n).toList == (strOf g m).toList
theorem sameB_iff (f g : Nat → Nat) (n m : Nat) (hf : ∀ i, f i < 256) (hg : ∀ i, g i < 256) : sameB f n g m = true ↔ n = m ∧ ∀ i, i < n → f i = g i := by
  have hd : ∀ (f : Nat → Nat) (n : Nat), (strOf f n).toList = (List.range n).map fun i => UInt8.ofNat (f i) := fun f n => by
    rw [ByteArray.toList_eq]; unfold strOf; rw [strOfNums_data, List.map_map]; rfl
  unfold sameB
  rw [beq_iff_eq, hd, hd]
  constructor
  · intro h
    have hl := congrArg List.length h
    simp at hl
    subst hl
    refine ⟨rfl, fun i hi => ?_⟩
    have h2 := congrArg (fun l => l[i]?) h
    simp [hi] at h2
    have h3 := congrArg UInt8.toNat h2
    simp at h3
    have := hf i
    have := hg i
    omega
  · rintro ⟨rfl, h⟩
    refine List.map_congr_left fun i hi => ?_
    rw [h i (by simpa using hi)]
theorem same_any (a b : Option Addr) (n m c d : Nat) (f g : Nat → Nat) (w : World) (h1 : Row w a n f) (h2 : Row w b m g) (r : Bool) (hr : sameB f n g m = r) :
    Calls Try.prog 9 #[.slice a n c, .slice b m d] w fun e w' => e = .returned (.bool r) ∧ w' = w := by
  have e1 := conv_any w a n c f h1
  have e2 := conv_any w b m d g h2
  have hr2 : ((strOf f n).toList == (strOf g m).toList) = r := hr
  generalize strOf f n = A at e1 hr2
  generalize strOf g m = B at e2 hr2
  clear hr h1 h2
  go_enter Try.func9, Try.ntmps9
  go_wp2
  go_ret
  exact ⟨rfl, rfl⟩
end Go.Proofs.Ytikkgfmhnmoalaa.octet
