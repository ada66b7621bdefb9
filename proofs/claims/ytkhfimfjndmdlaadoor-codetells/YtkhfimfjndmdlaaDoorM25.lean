/- What Decode takes is just what a program is written as. -/
import Derived.Test.YtkhfimfjndmdlaaDoorM24
import Derived.Test.YtkhfimfjndmdlaaDoorM8
namespace Go.Proofs.YtkhfimfjndmdlaaDoor.pg
open Go.ChangeShapes Go.WideShapes Go.ChangeAt Go.RowKit
set_option linter.unusedVariables false
set_option linter.unusedSimpArgs false
set_option maxRecDepth 100000
theorem has_at {f : Nat → Nat} {n : Nat} {L : List Nat} (h : Has f n 0 L) (i : Nat) (hi : i < L.length) : f i = fl L i := by
  have := h.2 i _ (List.getElem?_eq_getElem hi)
  rw [Nat.zero_add] at this
  rw [this]
  unfold fl
  rw [List.getD_eq_getElem?_getD, List.getElem?_eq_getElem hi]
  rfl
theorem dec_back {f : Nat → Nat} {n : Nat} (hf : ∀ i, f i < 256) (he : (dS f n).e = 0) : Has f n 0 (fullB (dPr f n).1) ∧ n = (fullB (dPr f n).1).length := by
  unfold dS rdEnd at he
  by_cases h3 : (rdSum f n (dPr f n).2).e = 0
  · rw [if_pos h3] at he
    have hk3 : ¬ (rdSum f n (dPr f n).2).k < n := fun q => by
      have he' : octet.endOf n (rdSum f n (dPr f n).2).k = 0 := he
      unfold octet.endOf at he'
      rw [if_pos q] at he'
      simp at he'
    by_cases h2 : (dPr f n).2.e = 0
    · unfold rdSum at h3 hk3
      rw [if_pos h2] at h3 hk3
      by_cases hs : n < (dPr f n).2.k + 4
      · rw [if_pos hs] at h3; simp at h3
      · rw [if_neg hs] at h3 hk3
        have h41 : hasB f n (dPr f n).2.k (sumB (sumOf f (dPr f n).2.k)) = true := by
          apply Classical.byContradiction
          intro q
          have h3' : (if hasB f n (dPr f n).2.k (sumB (sumOf f (dPr f n).2.k)) = true then (0 : Int) else 41) = 0 := h3
          rw [if_neg q] at h3'
          simp at h3'
        have H3 := hasB_iff.mp h41
        have hk : (rdMag f n).k ≤ n := by unfold rdMag; show (if n < 5 then 0 else 5) ≤ n; split <;> omega
        obtain ⟨_, hg⟩ := bwd_pr hf (rdMag f n) hk
        obtain ⟨g1, g2, g3⟩ := hg h2
        have hm : hasB f n 0 magB = true := by
          apply Classical.byContradiction
          intro q
          have g1' : (if hasB f n 0 magB = true then (0 : Int) else 40) = 0 := g1
          rw [if_neg q] at g1'
          simp at g1'
        have H1 := hasB_iff.mp hm
        have hn5 : 5 ≤ n := by have := H1.1; simpa using this
        have hk5 : (rdMag f n).k = 5 := by show (if n < 5 then 0 else 5) = 5; rw [if_neg (by omega)]
        rw [hk5] at g2 g3
        have g3' : (dPr f n).2.k = 5 + (encP (dPr f n).1).length := g3
        have g2' : Has f n 5 (encP (dPr f n).1) := g2
        rw [g3'] at H3 hk3
        generalize (dPr f n).1 = P at *
        have H12 : Has f n 0 (magicB ++ encP P) := Has.app.mpr ⟨H1, by simpa using g2'⟩
        have e : (magicB ++ encP P).length = 5 + (encP P).length := by rw [List.length_append]; rfl
        have hsum : sumOf f (5 + (encP P).length) = sumOf (fl (magicB ++ encP P)) (magicB ++ encP P).length := by
          rw [e]
          unfold sumOf
          rw [crc_congr f (fl (magicB ++ encP P)) _ fun i hi => has_at H12 i (by rw [e]; exact hi)]
        rw [hsum] at H3
        have hF : Has f n 0 (fullB P) := Has.app.mpr ⟨H12, by have q := H3; rw [← e] at q; rw [Nat.zero_add]; exact q⟩
        refine ⟨hF, ?_⟩
        have l1 := hF.1
        have l2 : (fullB P).length = 5 + (encP P).length + 4 := by unfold fullB; rw [List.length_append, e]; rfl
        have hk3' : ¬ (5 + (encP P).length + 4) < n := hk3
        omega
    · unfold rdSum at h3
      rw [if_neg h2] at h3
      exact absurd h3 h2
  · rw [if_neg h3] at he
    exact absurd he h3
theorem full_inj {P Q : Pr} (hP : prOkP P) (hQ : prOkP Q) (h : fullB P = fullB Q) : P = Q := by
  have h1 := (dec_enc P hP).1
  have h2 := (dec_enc Q hQ).1
  rw [← h] at h2
  exact h1.symm.trans h2
end Go.Proofs.YtkhfimfjndmdlaaDoor.pg
/- The sum's turns are linear and one to one: two lists of bytes that part in four neighbouring bytes alone have the same sum just if they are the same. -/
namespace Go.Proofs.YtkhfimfjndmdlaaDoor.octet
set_option linter.unusedVariables false
theorem xor_half (a b : Nat) : (a ^^^ b) / 2 = a / 2 ^^^ b / 2 := by
  have := @Nat.shiftRight_xor_distrib 1 a b
  simpa [Nat.shiftRight_eq_div_pow] using this
theorem st_xor (a b : Nat) : st (a ^^^ b) = st a ^^^ st b := by
  have hm : (a ^^^ b) % 2 = (a % 2) ^^^ (b % 2) := by
    have := @Nat.xor_mod_two_pow a b 1
    simpa using this
  unfold st
  rw [xor_half, hm]
  rcases (by omega : a % 2 = 0 ∨ a % 2 = 1) with h | h <;> rcases (by omega : b % 2 = 0 ∨ b % 2 = 1) with g | g <;> rw [h, g]
  · simp
  · simp [Nat.xor_assoc]
  · simp only [Nat.xor_zero, if_true, Nat.zero_ne_one, if_false]
    rw [Nat.xor_assoc, Nat.xor_assoc, Nat.xor_comm (b / 2)]
  · simp only [Nat.xor_self, if_true, Nat.zero_ne_one, if_false, Nat.xor_zero]
    rw [Nat.xor_assoc, Nat.xor_comm (3988292384 : Nat), Nat.xor_assoc (b / 2), Nat.xor_self, Nat.xor_zero]
theorem iter_xor (n a b : Nat) : iter n (a ^^^ b) = iter n a ^^^ iter n b := by
  induction n with
  | zero => rfl
  | succ n ih => show st _ = st _ ^^^ st _; rw [ih, st_xor]
theorem st_inj0 (c : Nat) (h : c < 4294967296) (e : st c = 0) : c = 0 := by
  rcases (by omega : c % 2 = 0 ∨ c % 2 = 1) with g | g
  · rw [st_even c g] at e; omega
  · rw [st_odd c g] at e
    have : c / 2 = 3988292384 := by
      have h2 : c / 2 ^^^ 3988292384 ^^^ 3988292384 = 0 ^^^ 3988292384 := by rw [e]
      rw [Nat.xor_assoc, Nat.xor_self, Nat.xor_zero, Nat.zero_xor] at h2
      exact h2
    omega
theorem iter_inj0 (n c : Nat) (h : c < 4294967296) (e : iter n c = 0) : c = 0 := by
  induction n with
  | zero => exact e
  | succ n ih => exact ih (st_inj0 _ (iter_lt n c h) e)
theorem iter_mul (n b : Nat) : iter n (b * 2 ^ n) = b := by
  induction n generalizing b with
  | zero => show b * 1 = b; omega
  | succ n ih =>
    show st (iter n _) = b
    rw [show b * 2 ^ (n + 1) = (2 * b) * 2 ^ n by rw [Nat.pow_succ, Nat.mul_comm 2 b, Nat.mul_assoc, Nat.mul_comm (2 ^ n) 2], ih, st_even _ (by omega)]
    omega
theorem iter_add (n m c : Nat) : iter n (iter m c) = iter (n + m) c := by
  induction n with
  | zero => rw [Nat.zero_add]; rfl
  | succ n ih => rw [show n + 1 + m = (n + m) + 1 by omega]; show st _ = st _; rw [ih]
theorem iter_zero (n : Nat) : iter n 0 = 0 := by have := iter_mul n 0; rwa [Nat.zero_mul] at this
/-- What parts two sums behind n bytes. -/
def df (h : Nat → Nat) : Nat → Nat
  | 0 => 0
  | n + 1 => iter 8 (df h n ^^^ h n)
theorem df_eq (f g : Nat → Nat) (n : Nat) : crc f n ^^^ crc g n = df (fun i => f i ^^^ g i) n := by
  induction n with
  | zero => show (4294967295 : Nat) ^^^ 4294967295 = 0; exact Nat.xor_self _
  | succ n ih =>
    show iter 8 _ ^^^ iter 8 _ = iter 8 _
    rw [← iter_xor, ← ih]
    congr 1
    rw [Nat.xor_assoc, Nat.xor_assoc]
    congr 1
    rw [← Nat.xor_assoc, ← Nat.xor_assoc, Nat.xor_comm (f n)]
theorem df_lt (h : Nat → Nat) (hh : ∀ i, h i < 256) (n : Nat) : df h n < 4294967296 := by
  induction n with
  | zero => show (0 : Nat) < 4294967296; decide
  | succ n ih => exact iter_lt _ _ (xor_lt32 ih (by have := hh n; omega))
theorem df_zero (h : Nat → Nat) (n : Nat) (hz : ∀ i, i < n → h i = 0) : df h n = 0 := by
  induction n with
  | zero => rfl
  | succ n ih =>
    show iter 8 _ = 0
    rw [ih fun i hi => hz i (by omega), hz n (by omega)]
    exact iter_zero 8
theorem df_part (h : Nat → Nat) (hh : ∀ i, h i < 256) (s : Nat) (h0 : df h s = 0) (m : Nat) : ∃ T, T < 2 ^ (8 * m) ∧ df h (s + m) = iter (8 * m) T ∧ (T = 0 → ∀ i, i < m → h (s + i) = 0) := by
  induction m with
  | zero => exact ⟨0, by decide, by rw [Nat.add_zero, h0]; rfl, fun _ i hi => by omega⟩
  | succ m ih =>
    obtain ⟨T, hT, e, hz⟩ := ih
    have hb := hh (s + m)
    have hx : T ^^^ h (s + m) * 2 ^ (8 * m) = 2 ^ (8 * m) * h (s + m) + T := by
      rw [Nat.mul_comm (h (s + m)), Nat.two_pow_add_eq_or_of_lt hT, Nat.or_comm]
      refine Nat.eq_of_testBit_eq fun i => ?_
      rw [Nat.testBit_xor, Nat.testBit_or, Nat.testBit_two_pow_mul]
      by_cases hi : 8 * m ≤ i
      · rw [Nat.testBit_lt_two_pow (Nat.lt_of_lt_of_le hT (Nat.pow_le_pow_right (by decide) hi))]; simp
      · simp [hi]
    refine ⟨2 ^ (8 * m) * h (s + m) + T, ?_, ?_, ?_⟩
    · have : 2 ^ (8 * (m + 1)) = 2 ^ (8 * m) * 256 := by rw [show 8 * (m + 1) = 8 * m + 8 by omega, Nat.pow_add]
      rw [this]
      have h2 : 2 ^ (8 * m) * h (s + m) + 2 ^ (8 * m) ≤ 2 ^ (8 * m) * 256 := by
        rw [← Nat.mul_succ]; exact Nat.mul_le_mul_left _ hb
      omega
    · rw [← Nat.add_assoc]
      show iter 8 (df h (s + m) ^^^ h (s + m)) = _
      rw [e, ← hx, show 8 * (m + 1) = 8 + 8 * m by omega, ← iter_add, iter_xor (8 * m), iter_mul]
    · intro hT0 i hi
      have hT' : T = 0 := by omega
      by_cases h1 : i < m
      · exact hz hT' i h1
      · have : 2 ^ (8 * m) * h (s + m) = 0 := by omega
        rcases Nat.mul_eq_zero.mp this with h3 | h3
        · have := Nat.two_pow_pos (8 * m); omega
        · rw [show i = m by omega]; exact h3
theorem df_all (h : Nat → Nat) (hh : ∀ i, h i < 256) (s n : Nat) (ho : ∀ i, i < s ∨ s + 4 ≤ i → h i = 0) (e : df h n = 0) : ∀ i, i < n → h i = 0 := by
  have hs : df h s = 0 := df_zero h s fun i hi => ho i (.inl hi)
  have low : ∀ m, m ≤ 4 → df h (s + m) = 0 → ∀ i, i < s + m → h i = 0 := by
    intro m hm e i hi
    obtain ⟨T, hT, e2, hz⟩ := df_part h hh s hs m
    have hT2 : T < 4294967296 := Nat.lt_of_lt_of_le hT (by have := Nat.pow_le_pow_right (n := 2) (by decide) (show 8 * m ≤ 32 by omega); exact this)
    have := iter_inj0 _ T hT2 (e2 ▸ e)
    by_cases h1 : i < s
    · exact ho i (.inl h1)
    · have := hz this (i - s) (by omega)
      rwa [show s + (i - s) = i by omega] at this
  have high : ∀ m, df h (s + 4 + m) = 0 → df h (s + 4) = 0 := by
    intro m
    induction m with
    | zero => exact id
    | succ m ih =>
      intro e
      refine ih ?_
      have e' : iter 8 (df h (s + 4 + m) ^^^ h (s + 4 + m)) = 0 := e
      rw [ho _ (.inr (by omega)), Nat.xor_zero] at e'
      exact iter_inj0 8 _ (df_lt h hh _) e'
  intro i hi
  by_cases h1 : n ≤ s
  · exact ho i (.inl (by omega))
  · by_cases h2 : n ≤ s + 4
    · exact low (n - s) (by omega) (by rw [show s + (n - s) = n by omega]; exact e) i (by omega)
    · have e4 := high (n - (s + 4)) (by rw [show s + 4 + (n - (s + 4)) = n by omega]; exact e)
      by_cases h3 : i < s + 4
      · exact low 4 (by omega) e4 i h3
      · exact ho i (.inr (by omega))
/-- Two lists of bytes that part in four neighbouring bytes alone have the same sum just if they are the same. -/
theorem burst (f g : Nat → Nat) (hf : ∀ i, f i < 256) (hg : ∀ i, g i < 256) (s n : Nat) (ho : ∀ i, i < s ∨ s + 4 ≤ i → f i = g i) : (4294967295 - crc f n = 4294967295 - crc g n) ↔ ∀ i, i < n → f i = g i := by
  have hx0 : ∀ a b : Nat, a ^^^ b = 0 ↔ a = b := fun a b => by
    constructor
    · intro h
      have h2 : a ^^^ b ^^^ b = 0 ^^^ b := by rw [h]
      rwa [Nat.xor_assoc, Nat.xor_self, Nat.xor_zero, Nat.zero_xor] at h2
    · rintro rfl; exact Nat.xor_self a
  have l1 := crc_lt f hf n
  have l2 := crc_lt g hg n
  have hh : ∀ i, f i ^^^ g i < 256 := fun i => Nat.xor_lt_two_pow (n := 8) (hf i) (hg i)
  constructor
  · intro e i hi
    have e1 : crc f n = crc g n := by omega
    have e2 : df (fun i => f i ^^^ g i) n = 0 := by rw [← df_eq, e1, Nat.xor_self]
    exact (hx0 _ _).1 (df_all _ hh s n (fun i h => (hx0 _ _).2 (ho i h)) e2 i hi)
  · intro h
    have e2 : df (fun i => f i ^^^ g i) n = 0 := df_zero _ n fun i hi => (hx0 _ _).2 (h i hi)
    rw [← df_eq, hx0] at e2
    rw [e2]
end Go.Proofs.YtkhfimfjndmdlaaDoor.octet
/- Bytes that differ from a program's in one byte are no program's. -/
namespace Go.Proofs.YtkhfimfjndmdlaaDoor.pg
set_option linter.unusedVariables false
set_option linter.unusedSimpArgs false
set_option maxRecDepth 100000
theorem sum_there {f : Nat → Nat} {n : Nat} {P : Pr} (h : Has f n 0 (fullB P)) (hn : n = (fullB P).length) : 4 ≤ n ∧ Has f n (n - 4) (sumB (sumOf f (n - 4))) := by
  have hl : (fullB P).length = (magicB ++ encP P).length + 4 := by unfold fullB; rw [List.length_append]; rfl
  have h2 := h
  unfold fullB at h2
  obtain ⟨h3, h4⟩ := Has.app.mp h2
  have e : n - 4 = (magicB ++ encP P).length := by omega
  rw [Nat.zero_add] at h4
  refine ⟨by omega, ?_⟩
  have hs : sumOf f (n - 4) = sumOf (fl (magicB ++ encP P)) (magicB ++ encP P).length := by
    rw [e]
    unfold sumOf
    rw [crc_congr f (fl (magicB ++ encP P)) _ fun i hi => has_at h3 i hi]
  rw [hs, e]
  exact h4
theorem sumB_inj {x y : Nat} (h : sumB x = sumB y) : x = y := by
  unfold sumB at h
  simp only [List.cons.injEq, and_true] at h
  omega
theorem has_eq {f g : Nat → Nat} {n k : Nat} {L M : List Nat} (h : Has f n k L) (h2 : Has g n k M) (hl : L.length = M.length) (he : ∀ i, i < L.length → f (k + i) = g (k + i)) : L = M := by
  refine List.ext_getElem hl fun i h3 h4 => ?_
  rw [← h.2 i _ (List.getElem?_eq_getElem h3), ← h2.2 i _ (List.getElem?_eq_getElem h4), he i h3]
theorem tells {f g : Nat → Nat} {n K : Nat} {P : Pr} (hf : ∀ i, f i < 256) (hg : ∀ i, g i < 256) (hP : Has f n 0 (fullB P)) (hn : n = (fullB P).length) (hK : K < n) (hne : f K ≠ g K) (ho : ∀ i, i ≠ K → f i = g i) : (dS g n).e ≠ 0 := by
  intro he
  obtain ⟨b1, b2⟩ := dec_back hg he
  obtain ⟨h4, s1⟩ := sum_there hP hn
  obtain ⟨_, s2⟩ := sum_there b1 b2
  by_cases hk : K < n - 4
  · have e1 := has_eq s1 s2 rfl (fun i hi => ho _ (by omega))
    have e2 := sumB_inj e1
    have e3 := (octet.burst f g hf hg K (n - 4) (fun i hi => ho i (by omega))).mp e2
    exact hne (e3 K hk)
  · have e1 : sumOf f (n - 4) = sumOf g (n - 4) := by
      unfold sumOf
      rw [crc_congr f g (n - 4) fun i hi => ho i (by omega)]
    rw [← e1] at s2
    obtain ⟨j, hj⟩ : ∃ j, K = n - 4 + j := ⟨K - (n - 4), by omega⟩
    have hj4 : j < (sumB (sumOf f (n - 4))).length := by show j < 4; omega
    have a1 := s1.2 j _ (List.getElem?_eq_getElem hj4)
    have a2 := s2.2 j _ (List.getElem?_eq_getElem hj4)
    rw [← hj] at a1 a2
    exact hne (a1.trans a2.symm)
/-- A right program has eighteen bytes at the least. -/
theorem put_pos (x : Nat) (hx : x < 18446744073709551616) : 1 ≤ (putB x).length := by rw [putB_len]; exact (octet.szN_bd x hx).1
theorem flat_mem {α : Type} (B : α → List Nat) (l : List α) (x : α) (h : x ∈ l) : (B x).length ≤ (l.flatMap B).length := by
  induction l with
  | nil => simp at h
  | cons y t ih =>
    rw [List.flatMap_cons, List.length_append]
    rcases List.mem_cons.mp h with rfl | h
    · omega
    · have := ih h; omega
theorem full_min {P : Pr} (h : (chk insP P).1 = 0) (hok : prOkP P) : 18 ≤ (fullB P).length := by
  have hs : sizesE P = 0 := chk_sizes0 h
  obtain ⟨_, _, _, s4⟩ := sizes_ok hs
  obtain ⟨g, hg⟩ : ∃ g, g ∈ P.fns := by
    cases hq : P.fns with
    | nil => rw [hq] at s4; simp at s4
    | cons x t => exact ⟨x, by simp⟩
  have hsh := chk_shaped h g hg
  obtain ⟨i, hi⟩ : ∃ i, i ∈ g.code := by
    cases hq : g.code with
    | nil => have := hsh.2.2.1.1; rw [hq] at this; simp at this
    | cons x t => exact ⟨x, by simp⟩
  obtain ⟨⟨v1, v2⟩, hl, ⟨c1, c2⟩, f1, f2⟩ := hok
  obtain ⟨p1, p2, p3, p4, p5, p6⟩ := f2 g hg
  have a1 := put_pos P.vars.length (by omega)
  have a2 := put_pos P.locks.toNat (by omega)
  have a3 := put_pos P.chans.length (by omega)
  have a4 := put_pos P.fns.length (by omega)
  have b1 := put_pos g.params.toNat (by omega)
  have b2 := put_pos g.regs.toNat (by omega)
  have b3 := put_pos g.sels.length (by omega)
  have b4 := put_pos g.code.length (by omega)
  have b5 := put_pos i.op.toNat (by have := (p4 i hi).1.1; omega)
  have m1 := flat_mem fnBp P.fns g hg
  have m2 := flat_mem insB g.code i hi
  have m3 : (putB i.op.toNat).length ≤ (insB i).length := insTo_len i 0 (by omega)
  have m4 : (fnBp g).length = (putB g.params.toNat).length + ((putB g.regs.toNat).length + (((putB g.sels.length).length + (g.sels.flatMap selB).length) + ((putB g.code.length).length + (g.code.flatMap insB).length))) := by unfold fnBp lisB; simp only [List.length_append]
  have m5 : (fullB P).length = (5 + (((putB P.vars.length).length + (P.vars.flatMap varB).length) + ((putB P.locks.toNat).length + (((putB P.chans.length).length + (P.chans.flatMap chB).length) + ((putB P.fns.length).length + (P.fns.flatMap fnBp).length))))) + 4 := by unfold fullB encP lisB; simp only [List.length_append]; rfl
  omega
end Go.Proofs.YtkhfimfjndmdlaaDoor.pg
