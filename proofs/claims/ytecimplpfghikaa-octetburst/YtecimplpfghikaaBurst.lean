/- The sum's turns are linear and one to one: two lists of bytes that part in four neighbouring bytes alone have the same sum just if they are the same. -/
import Derived.Test.YtecimplpfghikaaCrc
namespace Go.Proofs.Ytecimplpfghikaa.octet
set_option linter.unusedVariables false
theorem xor_half (a b : Nat) : (a ^^^ b) / 2 = a / 2 ^^^ b / 2 := by
  have := @Nat.shiftRight_xor_distrib 1 a b
  simpa [Nat.shiftRight_eq_div_pow] using this
theorem st_xor (a b : Nat) : st (a ^^^ b) = st a ^^^ st b := by
  have hm : (a ^^^ b) % 2 = (a % 2) ^^^ (b % 2) := by
    have := @Nat.xor_mod_two_pow a b 1
    simpa using this
  unfold st
  rw [xor_half, hm]
  rcases (by omega : a % 2 = 0 ∨ a % 2 = 1) with h | h <;> rcases (by omega : b % 2 = 0 ∨ b % 2 = 1) with g | g <;> rw [h, g]
  · simp
  · simp [Nat.xor_assoc]
  · simp only [Nat.xor_zero, if_true, Nat.zero_ne_one, if_false]
    rw [Nat.xor_assoc, Nat.xor_assoc, Nat.xor_comm (b / 2)]
  · simp only [Nat.xor_self, if_true, Nat.zero_ne_one, if_false, Nat.xor_zero]
    rw [Nat.xor_assoc, Nat.xor_comm (3988292384 : Nat), Nat.xor_assoc (b / 2), Nat.xor_self, Nat.xor_zero]
theorem iter_xor (n a b : Nat) : iter n (a ^^^ b) = iter n a ^^^ iter n b := by
  induction n with
  | zero => rfl
  | succ n ih => show st _ = st _ ^^^ st _; rw [ih, st_xor]
theorem st_inj0 (c : Nat) (h : c < 4294967296) (e : st c = 0) : c = 0 := by
  rcases (by omega : c % 2 = 0 ∨ c % 2 = 1) with g | g
  · rw [st_even c g] at e; omega
  · rw [st_odd c g] at e
    have : c / 2 = 3988292384 := by
      have h2 : c / 2 ^^^ 3988292384 ^^^ 3988292384 = 0 ^^^ 3988292384 := by rw [e]
      rw [Nat.xor_assoc, Nat.xor_self, Nat.xor_zero, Nat.zero_xor] at h2
      exact h2
    omega
theorem iter_inj0 (n c : Nat) (h : c < 4294967296) (e : iter n c = 0) : c = 0 := by
  induction n with
  | zero => exact e
  | succ n ih => exact ih (st_inj0 _ (iter_lt n c h) e)
theorem iter_mul (n b : Nat) : iter n (b * 2 ^ n) = b := by
  induction n generalizing b with
  | zero => show b * 1 = b; omega
  | succ n ih =>
    show st (iter n _) = b
    rw [show b * 2 ^ (n + 1) = (2 * b) * 2 ^ n by rw [Nat.pow_succ, Nat.mul_comm 2 b, Nat.mul_assoc, Nat.mul_comm (2 ^ n) 2], ih, st_even _ (by omega)]
    omega
theorem iter_add (n m c : Nat) : iter n (iter m c) = iter (n + m) c := by
  induction n with
  | zero => rw [Nat.zero_add]; rfl
  | succ n ih => rw [show n + 1 + m = (n + m) + 1 by omega]; show st _ = st _; rw [ih]
theorem iter_zero (n : Nat) : iter n 0 = 0 := by have := iter_mul n 0; rwa [Nat.zero_mul] at this
/-- What parts two sums behind n bytes. -/
def df (h : Nat → Nat) : Nat → Nat
  | 0 => 0
  | n + 1 => iter 8 (df h n ^^^ h n)
theorem df_eq (f g : Nat → Nat) (n : Nat) : crc f n ^^^ crc g n = df (fun i => f i ^^^ g i) n := by
  induction n with
  | zero => show (4294967295 : Nat) ^^^ 4294967295 = 0; exact Nat.xor_self _
  | succ n ih =>
    show iter 8 _ ^^^ iter 8 _ = iter 8 _
    rw [← iter_xor, ← ih]
    congr 1
    rw [Nat.xor_assoc, Nat.xor_assoc]
    congr 1
    rw [← Nat.xor_assoc, ← Nat.xor_assoc, Nat.xor_comm (f n)]
theorem df_lt (h : Nat → Nat) (hh : ∀ i, h i < 256) (n : Nat) : df h n < 4294967296 := by
  induction n with
  | zero => show (0 : Nat) < 4294967296; decide
  | succ n ih => exact iter_lt _ _ (xor_lt32 ih (by have := hh n; omega))
theorem df_zero (h : Nat → Nat) (n : Nat) (hz : ∀ i, i < n → h i = 0) : df h n = 0 := by
  induction n with
  | zero => rfl
  | succ n ih =>
    show iter 8 _ = 0
    rw [ih fun i hi => hz i (by omega), hz n (by omega)]
    exact iter_zero 8
theorem df_part (h : Nat → Nat) (hh : ∀ i, h i < 256) (s : Nat) (h0 : df h s = 0) (m : Nat) : ∃ T, T < 2 ^ (8 * m) ∧ df h (s + m) = iter (8 * m) T ∧ (T = 0 → ∀ i, i < m → h (s + i) = 0) := by
  induction m with
  | zero => exact ⟨0, by decide, by rw [Nat.add_zero, h0]; rfl, fun _ i hi => by omega⟩
  | succ m ih =>
    obtain ⟨T, hT, e, hz⟩ := ih
    have hb := hh (s + m)
    have hx : T ^^^ h (s + m) * 2 ^ (8 * m) = 2 ^ (8 * m) * h (s + m) + T := by
      rw [Nat.mul_comm (h (s + m)), Nat.two_pow_add_eq_or_of_lt hT, Nat.or_comm]
      refine Nat.eq_of_testBit_eq fun i => ?_
      rw [Nat.testBit_xor, Nat.testBit_or, Nat.testBit_two_pow_mul]
      by_cases hi : 8 * m ≤ i
      · rw [Nat.testBit_lt_two_pow (Nat.lt_of_lt_of_le hT (Nat.pow_le_pow_right (by decide) hi))]; simp
      · simp [hi]
    refine ⟨2 ^ (8 * m) * h (s + m) + T, ?_, ?_, ?_⟩
    · have : 2 ^ (8 * (m + 1)) = 2 ^ (8 * m) * 256 := by rw [show 8 * (m + 1) = 8 * m + 8 by omega, Nat.pow_add]
      rw [this]
      have h2 : 2 ^ (8 * m) * h (s + m) + 2 ^ (8 * m) ≤ 2 ^ (8 * m) * 256 := by
        rw [← Nat.mul_succ]; exact Nat.mul_le_mul_left _ hb
      omega
    · rw [← Nat.add_assoc]
      show iter 8 (df h (s + m) ^^^ h (s + m)) = _
      rw [e, ← hx, show 8 * (m + 1) = 8 + 8 * m by omega, ← iter_add, iter_xor (8 * m), iter_mul]
    · intro hT0 i hi
      have hT' : T = 0 := by omega
      by_cases h1 : i < m
      · exact hz hT' i h1
      · have : 2 ^ (8 * m) * h (s + m) = 0 := by omega
        rcases Nat.mul_eq_zero.mp this with h3 | h3
        · have := Nat.two_pow_pos (8 * m); omega
        · rw [show i = m by omega]; exact h3
theorem df_all (h : Nat → Nat) (hh : ∀ i, h i < 256) (s n : Nat) (ho : ∀ i, i < s ∨ s + 4 ≤ i → h i = 0) (e : df h n = 0) : ∀ i, i < n → h i = 0 := by
  have hs : df h s = 0 := df_zero h s fun i hi => ho i (.inl hi)
  have low : ∀ m, m ≤ 4 → df h (s + m) = 0 → ∀ i, i < s + m → h i = 0 := by
    intro m hm e i hi
    obtain ⟨T, hT, e2, hz⟩ := df_part h hh s hs m
    have hT2 : T < 4294967296 := Nat.lt_of_lt_of_le hT (by have := Nat.pow_le_pow_right (n := 2) (by decide) (show 8 * m ≤ 32 by omega); exact this)
    have := iter_inj0 _ T hT2 (e2 ▸ e)
    by_cases h1 : i < s
    · exact ho i (.inl h1)
    · have := hz this (i - s) (by omega)
      rwa [show s + (i - s) = i by omega] at this
  have high : ∀ m, df h (s + 4 + m) = 0 → df h (s + 4) = 0 := by
    intro m
    induction m with
    | zero => exact id
    | succ m ih =>
      intro e
      refine ih ?_
      have e' : iter 8 (df h (s + 4 + m) ^^^ h (s + 4 + m)) = 0 := e
      rw [ho _ (.inr (by omega)), Nat.xor_zero] at e'
      exact iter_inj0 8 _ (df_lt h hh _) e'
  intro i hi
  by_cases h1 : n ≤ s
  · exact ho i (.inl (by omega))
  · by_cases h2 : n ≤ s + 4
    · exact low (n - s) (by omega) (by rw [show s + (n - s) = n by omega]; exact e) i (by omega)
    · have e4 := high (n - (s + 4)) (by rw [show s + 4 + (n - (s + 4)) = n by omega]; exact e)
      by_cases h3 : i < s + 4
      · exact low 4 (by omega) e4 i h3
      · exact ho i (.inr (by omega))
/-- Two lists of bytes that part in four neighbouring bytes alone have the same sum just if they are the same. -/
theorem burst (f g : Nat → Nat) (hf : ∀ i, f i < 256) (hg : ∀ i, g i < 256) (s n : Nat) (ho : ∀ i, i < s ∨ s + 4 ≤ i → f i = g i) : (4294967295 - crc f n = 4294967295 - crc g n) ↔ ∀ i, i < n → f i = g i := by
  have hx0 : ∀ a b : Nat, a ^^^ b = 0 ↔ a = b := fun a b => by
    constructor
    · intro h
      have h2 : a ^^^ b ^^^ b = 0 ^^^ b := by rw [h]
      rwa [Nat.xor_assoc, Nat.xor_self, Nat.xor_zero, Nat.zero_xor] at h2
    · rintro rfl; exact Nat.xor_self a
  have l1 := crc_lt f hf n
  have l2 := crc_lt g hg n
  have hh : ∀ i, f i ^^^ g i < 256 := fun i => Nat.xor_lt_two_pow (n := 8) (hf i) (hg i)
  constructor
  · intro e i hi
    have e1 : crc f n = crc g n := by omega
    have e2 : df (fun i => f i ^^^ g i) n = 0 := by rw [← df_eq, e1, Nat.xor_self]
    exact (hx0 _ _).1 (df_all _ hh s n (fun i h => (hx0 _ _).2 (ho i h)) e2 i hi)
  · intro h
    have e2 : df (fun i => f i ^^^ g i) n = 0 := df_zero _ n fun i hi => (hx0 _ _).2 (h i hi)
    rw [← df_eq, hx0] at e2
    rw [e2]
end Go.Proofs.Ytecimplpfghikaa.octet
