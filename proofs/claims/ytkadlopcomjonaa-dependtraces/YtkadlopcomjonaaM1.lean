/- What happens before what, as plain mathematics: the closure of a relation, counts along chains, clocks. -/
import Derived.WalkKit
namespace Go.Proofs.Ytkadlopcomjonaa.pg
set_option linter.unusedVariables false
/-- How many numbers below n there are of which p holds. -/
def cnt (p : Nat → Bool) : Nat → Nat
  | 0 => 0
  | n + 1 => cnt p n + (if p n then 1 else 0)
theorem cnt_le (p : Nat → Bool) : ∀ n, cnt p n ≤ n
  | 0 => Nat.le_refl _
  | n + 1 => by have := cnt_le p n; unfold cnt; split <;> omega
theorem cnt_mono {p q : Nat → Bool} : ∀ {n : Nat}, (∀ k, k < n → p k = true → q k = true) → cnt p n ≤ cnt q n
  | 0, _ => Nat.le_refl _
  | n + 1, h => by
    have h1 := cnt_mono (p := p) (q := q) (n := n) fun k hk => h k (by omega)
    have h2 := h n (by omega)
    unfold cnt
    by_cases hp : p n = true
    · rw [if_pos hp, if_pos (h2 hp)]; omega
    · rw [if_neg hp]; omega
theorem cnt_congr {p q : Nat → Bool} {n : Nat} (h : ∀ k, k < n → (p k = true ↔ q k = true)) : cnt p n = cnt q n :=
  Nat.le_antisymm (cnt_mono fun k hk => (h k hk).mp) (cnt_mono fun k hk => (h k hk).mpr)
theorem cnt_lt {p q : Nat → Bool} : ∀ {n m : Nat}, (∀ k, k < n → p k = true → q k = true) → m < n → q m = true → p m = false → cnt p n < cnt q n
  | 0, m, _, hm, _, _ => by omega
  | n + 1, m, h, hm, hq, hp => by
    unfold cnt
    by_cases e : m = n
    · subst e
      have h1 := cnt_mono (p := p) (q := q) (n := m) fun k hk => h k (by omega)
      rw [if_pos hq, if_neg (by rw [hp]; exact Bool.false_ne_true)]
      omega
    · have h1 := cnt_lt (p := p) (q := q) (n := n) (m := m) (fun k hk => h k (by omega)) (by omega) hq hp
      have h2 := h n (by omega)
      by_cases hp2 : p n = true
      · rw [if_pos hp2, if_pos (h2 hp2)]; omega
      · rw [if_neg hp2]; omega
theorem cnt_cut {p : Nat → Bool} {m : Nat} : ∀ {n : Nat}, m ≤ n → (∀ k, m ≤ k → k < n → p k = false) → cnt p n = cnt p m
  | 0, h, _ => by have : m = 0 := by omega
                  subst this; rfl
  | n + 1, h, hf => by
    by_cases e : m = n + 1
    · rw [e]
    · have h1 := cnt_cut (p := p) (m := m) (n := n) (by omega) fun k h1 h2 => hf k h1 (by omega)
      conv => lhs; unfold cnt
      rw [h1, if_neg (by rw [hf n (by omega) (by omega)]; exact Bool.false_ne_true)]
      rfl
/-- The closure of a relation that goes forward. -/
inductive HB (d : Nat → Nat → Bool) : Nat → Nat → Prop
  | one {i j : Nat} : i < j → d i j = true → HB d i j
  | then {i k j : Nat} : HB d i k → HB d k j → HB d i j
theorem HB.lt {d : Nat → Nat → Bool} {i j : Nat} (h : HB d i j) : i < j := by
  induction h with
  | one h _ => exact h
  | «then» _ _ h1 h2 => omega
theorem HB.last {d : Nat → Nat → Bool} {i j : Nat} (h : HB d i j) : ∃ m, m < j ∧ d m j = true ∧ (i = m ∨ HB d i m) := by
  induction h with
  | one h1 h2 => exact ⟨_, h1, h2, .inl rfl⟩
  | «then» a _ _ ih =>
    obtain ⟨m, h1, h2, h3⟩ := ih
    refine ⟨m, h1, h2, .inr ?_⟩
    rcases h3 with rfl | h3
    · exact a
    · exact .then a h3
theorem HB.of_last {d : Nat → Nat → Bool} {i m j : Nat} (h1 : m < j) (h2 : d m j = true) (h3 : i = m ∨ HB d i m) : HB d i j := by
  rcases h3 with rfl | h3
  · exact .one h1 h2
  · exact .then h3 (.one h1 h2)
/-- B tells what happens before what. -/
def Tells (d : Nat → Nat → Bool) (B : Nat → Nat → Bool) : Prop := ∀ i j, B i j = true ↔ HB d i j
theorem tells_some (d : Nat → Nat → Bool) : ∃ B, Tells d B :=
  ⟨fun i j => @decide (HB d i j) (Classical.propDecidable _), fun i j => by simp⟩
/-- What happens before j by way of one of the places from m on. -/
def sB (d B : Nat → Nat → Bool) (j m k : Nat) : Bool := (List.range j).any fun i => decide (m ≤ i) && d i j && (k == i || B k i)
theorem sB_iff {d B : Nat → Nat → Bool} (hB : Tells d B) (j m k : Nat) : sB d B j m k = true ↔ ∃ i, m ≤ i ∧ i < j ∧ d i j = true ∧ (k = i ∨ HB d k i) := by
  unfold sB
  rw [List.any_eq_true]
  constructor
  · rintro ⟨i, hi, h⟩
    rw [List.mem_range] at hi
    simp only [Bool.and_eq_true, decide_eq_true_eq, Bool.or_eq_true, beq_iff_eq, hB k i] at h
    exact ⟨i, h.1.1, hi, h.1.2, h.2⟩
  · rintro ⟨i, h1, h2, h3, h4⟩
    refine ⟨i, List.mem_range.mpr h2, ?_⟩
    simp only [Bool.and_eq_true, decide_eq_true_eq, Bool.or_eq_true, beq_iff_eq, hB k i]
    exact ⟨⟨h1, h3⟩, h4⟩
section
variable {d B : Nat → Nat → Bool} (hB : Tells d B)
include hB
theorem sB_top (j k : Nat) : sB d B j j k = false := by
  rw [Bool.eq_false_iff]
  intro h
  obtain ⟨i, h1, h2, _⟩ := (sB_iff hB j j k).mp h
  omega
theorem sB_zero (j k : Nat) : sB d B j 0 k = B k j := by
  rw [Bool.eq_iff_iff, sB_iff hB, hB k j]
  constructor
  · rintro ⟨i, _, h1, h2, h3⟩
    exact HB.of_last h1 h2 h3
  · intro h
    obtain ⟨m, h1, h2, h3⟩ := h.last
    exact ⟨m, by omega, h1, h2, h3⟩
theorem sB_lt {j m k : Nat} (h : sB d B j m k = true) : k < j := by
  obtain ⟨i, _, h2, _, h4⟩ := (sB_iff hB j m k).mp h
  rcases h4 with rfl | h4
  · exact h2
  · have := h4.lt; omega
theorem sB_down {j m k k' : Nat} (h : sB d B j m k = true) (hk : HB d k' k) : sB d B j m k' = true := by
  obtain ⟨i, h1, h2, h3, h4⟩ := (sB_iff hB j m k).mp h
  refine (sB_iff hB j m k').mpr ⟨i, h1, h2, h3, .inr ?_⟩
  rcases h4 with rfl | h4
  · exact hk
  · exact .then hk h4
/-- A place on the way already, or one that j does not depend on, brings nothing. -/
theorem sB_keep {j i : Nat} (h : sB d B j (i + 1) i = true ∨ d i j = false) (k : Nat) : sB d B j i k = sB d B j (i + 1) k := by
  rw [Bool.eq_iff_iff]
  constructor
  · intro q
    obtain ⟨i', h1, h2, h3, h4⟩ := (sB_iff hB j i k).mp q
    by_cases e : i' = i
    · subst e
      rcases h with h | h
      · rcases h4 with rfl | h4
        · exact h
        · exact sB_down hB h h4
      · rw [h] at h3; cases h3
    · exact (sB_iff hB j (i + 1) k).mpr ⟨i', by omega, h2, h3, h4⟩
  · intro q
    obtain ⟨i', h1, h2, h3, h4⟩ := (sB_iff hB j (i + 1) k).mp q
    exact (sB_iff hB j i k).mpr ⟨i', by omega, h2, h3, h4⟩
/-- Any other one brings itself and its past. -/
theorem sB_more {j i : Nat} (hi : i < j) (h : d i j = true) (k : Nat) : sB d B j i k = (sB d B j (i + 1) k || (k == i || B k i)) := by
  rw [Bool.eq_iff_iff, Bool.or_eq_true, Bool.or_eq_true, beq_iff_eq, hB k i]
  constructor
  · intro q
    obtain ⟨i', h1, h2, h3, h4⟩ := (sB_iff hB j i k).mp q
    by_cases e : i' = i
    · subst e; exact .inr h4
    · exact .inl ((sB_iff hB j (i + 1) k).mpr ⟨i', by omega, h2, h3, h4⟩)
  · rintro (q | q)
    · obtain ⟨i', h1, h2, h3, h4⟩ := (sB_iff hB j (i + 1) k).mp q
      exact (sB_iff hB j i k).mpr ⟨i', by omega, h2, h3, h4⟩
    · exact (sB_iff hB j i k).mpr ⟨i, Nat.le_refl _, hi, h, q⟩
/-- An edge: before, with nothing between. -/
theorem edge_iff {i j : Nat} (hi : i < j) : (HB d i j ∧ ∀ k, ¬ (HB d i k ∧ HB d k j)) ↔ (d i j = true ∧ sB d B j (i + 1) i = false) := by
  constructor
  · rintro ⟨h1, h2⟩
    have hd : d i j = true := by
      obtain ⟨m, q1, q2, q3⟩ := h1.last
      rcases q3 with rfl | q3
      · exact q2
      · exact absurd ⟨q3, .one q1 q2⟩ (h2 m)
    refine ⟨hd, ?_⟩
    rw [Bool.eq_false_iff]
    intro q
    obtain ⟨i', q1, q2, q3, q4⟩ := (sB_iff hB j (i + 1) i).mp q
    rcases q4 with rfl | q4
    · omega
    · exact h2 i' ⟨q4, .one q2 q3⟩
  · rintro ⟨h1, h2⟩
    refine ⟨.one hi h1, fun k hk => ?_⟩
    rw [Bool.eq_false_iff] at h2
    refine h2 ((sB_iff hB j (i + 1) i).mpr ?_)
    obtain ⟨m, q1, q2, q3⟩ := hk.2.last
    have hlt := hk.1.lt
    rcases q3 with rfl | q3
    · exact ⟨k, by omega, q1, q2, .inr hk.1⟩
    · exact ⟨m, by have := q3.lt; omega, q1, q2, .inr (.then hk.1 q3)⟩
end
/-- Closed along the events of each goroutine. -/
def Chn (g : Nat → Nat) (T : Nat → Bool) : Prop := ∀ k k', T k = true → k' < k → g k' = g k → T k' = true
theorem chn_iff {g : Nat → Nat} {T : Nat → Bool} {n i : Nat} (hT : Chn g T) (hn : ∀ k, T k = true → k < n) (hi : i < n) :
    cnt (fun k => g k == g i && decide (k ≤ i)) n ≤ cnt (fun k => g k == g i && T k) n ↔ T i = true := by
  constructor
  · intro h
    apply Classical.byContradiction
    intro q
    have : cnt (fun k => g k == g i && T k) n < cnt (fun k => g k == g i && decide (k ≤ i)) n := by
      refine cnt_lt (m := i) (fun k hk hp => ?_) hi (by simp) (by simp [q])
      simp only [Bool.and_eq_true, beq_iff_eq, decide_eq_true_eq] at hp ⊢
      refine ⟨hp.1, ?_⟩
      apply Classical.byContradiction
      intro hki
      exact q (hT k i hp.2 (by omega) hp.1.symm)
    omega
  · intro h
    refine cnt_mono fun k hk hp => ?_
    simp only [Bool.and_eq_true, beq_iff_eq, decide_eq_true_eq] at hp ⊢
    refine ⟨hp.1, ?_⟩
    by_cases e : k = i
    · rw [e]; exact h
    · exact hT i k h (by omega) hp.1
theorem chn_max {g : Nat → Nat} {T U : Nat → Bool} (hT : Chn g T) (hU : Chn g U) (n a : Nat) :
    cnt (fun k => g k == a && (T k || U k)) n = max (cnt (fun k => g k == a && T k) n) (cnt (fun k => g k == a && U k) n) := by
  have key : (∀ k, g k = a → T k = true → U k = true) ∨ (∀ k, g k = a → U k = true → T k = true) := by
    apply Classical.byContradiction
    intro q
    rw [not_or] at q
    obtain ⟨q1, q2⟩ := q
    apply q1
    intro k hk h
    apply Classical.byContradiction
    intro hu
    apply q2
    intro m hm h2
    by_cases e : m < k
    · exact hT k m h e (hm.trans hk.symm)
    · by_cases e2 : m = k
      · rw [e2]; exact h
      · exact absurd (hU m k h2 (by omega) (hk.trans hm.symm)) hu
  rcases key with h | h
  · have e1 : cnt (fun k => g k == a && (T k || U k)) n = cnt (fun k => g k == a && U k) n := cnt_congr fun k _ => by
      simp only [Bool.and_eq_true, beq_iff_eq, Bool.or_eq_true]
      exact ⟨fun ⟨x, y⟩ => ⟨x, y.elim (h k x) id⟩, fun ⟨x, y⟩ => ⟨x, .inr y⟩⟩
    have e2 : cnt (fun k => g k == a && T k) n ≤ cnt (fun k => g k == a && U k) n := cnt_mono fun k _ hp => by
      simp only [Bool.and_eq_true, beq_iff_eq] at hp ⊢
      exact ⟨hp.1, h k hp.1 hp.2⟩
    rw [e1, Nat.max_def]; split <;> omega
  · have e1 : cnt (fun k => g k == a && (T k || U k)) n = cnt (fun k => g k == a && T k) n := cnt_congr fun k _ => by
      simp only [Bool.and_eq_true, beq_iff_eq, Bool.or_eq_true]
      exact ⟨fun ⟨x, y⟩ => ⟨x, y.elim id (h k x)⟩, fun ⟨x, y⟩ => ⟨x, .inl y⟩⟩
    have e2 : cnt (fun k => g k == a && U k) n ≤ cnt (fun k => g k == a && T k) n := cnt_mono fun k _ hp => by
      simp only [Bool.and_eq_true, beq_iff_eq] at hp ⊢
      exact ⟨hp.1, h k hp.1 hp.2⟩
    rw [e1, Nat.max_def]; split <;> omega
/-- The clock of j at goroutine a. -/
def ck (B : Nat → Nat → Bool) (g : Nat → Nat) (j a : Nat) : Nat := cnt (fun k => g k == a && (k == j || B k j)) (j + 1)
/-- Events of one goroutine, of the first n, depend on each other. -/
def Ord (d : Nat → Nat → Bool) (g : Nat → Nat) (n : Nat) : Prop := ∀ i j, i < j → j < n → g i = g j → d i j = true
section
variable {d B : Nat → Nat → Bool} (hB : Tells d B) {g : Nat → Nat} {n : Nat} (ho : Ord d g n)
include hB
theorem past_lt {j k : Nat} (h : (k == j || B k j) = true) : k ≤ j := by
  rw [Bool.or_eq_true, beq_iff_eq, hB k j] at h
  rcases h with h | h
  · omega
  · have := h.lt; omega
theorem ckn_at {j a N : Nat} (h : j < N) : ck B g j a = cnt (fun k => g k == a && (k == j || B k j)) N := by
  unfold ck
  rw [cnt_cut (m := j + 1) (n := N) (by omega)]
  intro k h1 h2
  rw [Bool.eq_false_iff]
  intro q
  rw [Bool.and_eq_true] at q
  have := past_lt hB q.2
  omega
theorem keep_eq {i j : Nat} (h : sB d B j (i + 1) i = true ∨ d i j = false) (a : Nat) : cnt (fun k => g k == a && sB d B j i k) j = cnt (fun k => g k == a && sB d B j (i + 1) k) j :=
  cnt_congr fun k _ => by rw [sB_keep hB h]
theorem tick_eq (j a : Nat) : ck B g j a = cnt (fun k => g k == a && sB d B j 0 k) j + (if a = g j then 1 else 0) := by
  unfold ck
  conv => lhs; unfold cnt
  have h1 : cnt (fun k => g k == a && (k == j || B k j)) j = cnt (fun k => g k == a && sB d B j 0 k) j := cnt_congr fun k hk => by
    rw [sB_zero hB]
    have : (k == j) = false := by simp; omega
    rw [this, Bool.false_or]
  rw [h1]
  by_cases e : a = g j
  · subst e; simp
  · have : (g j == a) = false := by simp; exact fun q => e q.symm
    simp [e, this]
theorem zero_eq (j a : Nat) : cnt (fun k => g k == a && sB d B j j k) j = 0 := by
  rw [cnt_cut (m := 0) (n := j) (Nat.zero_le _) fun k _ _ => by rw [sB_top hB, Bool.and_false]]
  rfl
include ho
theorem past_chn {j : Nat} (hj : j < n) : Chn g fun k => k == j || B k j := by
  intro k k' h hk hg
  have hkj := past_lt hB h
  rw [Bool.or_eq_true, beq_iff_eq, hB k j] at h
  rw [Bool.or_eq_true, beq_iff_eq, hB k' j]
  right
  have h1 : HB d k' k := .one hk (ho k' k hk (by omega) hg)
  rcases h with rfl | h
  · exact h1
  · exact .then h1 h
theorem sB_chn {j m : Nat} (hj : j < n) : Chn g (sB d B j m) := by
  intro k k' h hk hg
  have := sB_lt hB h
  exact sB_down hB h (.one hk (ho k' k hk (by omega) hg))
theorem ck_own {i N : Nat} (hi : i < n) (h : i < N) : ck B g i (g i) = cnt (fun k => g k == g i && decide (k ≤ i)) N := by
  rw [ckn_at hB h]
  refine cnt_congr fun k hk => ?_
  simp only [Bool.and_eq_true, beq_iff_eq, decide_eq_true_eq]
  constructor
  · rintro ⟨h1, h2⟩; exact ⟨h1, past_lt hB h2⟩
  · rintro ⟨h1, h2⟩
    refine ⟨h1, ?_⟩
    rw [Bool.or_eq_true, beq_iff_eq, hB k i]
    by_cases e : k = i
    · exact .inl e
    · exact .inr (.one (by omega) (ho k i (by omega) hi h1))
/-- The number of i at its own goroutine tells whether i is on the way already. -/
theorem test_iff {i j m : Nat} (hij : i < j) (hj : j < n) : ck B g i (g i) ≤ cnt (fun k => g k == g i && sB d B j m k) j ↔ sB d B j m i = true := by
  rw [ck_own hB ho (by omega) hij]
  exact chn_iff (sB_chn hB ho hj) (fun k h => sB_lt hB h) hij
theorem join_eq {i j : Nat} (hij : i < j) (hj : j < n) (hd : d i j = true) (a : Nat) : cnt (fun k => g k == a && sB d B j i k) j = max (cnt (fun k => g k == a && sB d B j (i + 1) k) j) (ck B g i a) := by
  rw [ckn_at hB hij, ← chn_max (sB_chn hB ho hj) (past_chn hB ho (by omega))]
  refine cnt_congr fun k _ => ?_
  rw [sB_more hB hij hd]
/-- Clocks tell what happens before what. -/
theorem before_iff {i j : Nat} (hij : i < j) (hj : j < n) : ck B g i (g i) ≤ ck B g j (g i) ↔ B i j = true := by
  rw [ck_own hB ho (by omega) (show i < j + 1 by omega), ckn_at hB (show j < j + 1 by omega)]
  rw [chn_iff (past_chn hB ho hj) (fun k h => by have := past_lt hB h; omega) (by omega)]
  have : (i == j) = false := by simp; omega
  rw [this, Bool.false_or]
/-- A clock that is nowhere above: so is what happens before. -/
theorem under_iff {i j : Nat} (hij : i < j) (hj : j < n) : (∀ a, ck B g i a ≤ ck B g j a) ↔ B i j = true := by
  constructor
  · intro h; exact (before_iff hB ho hij hj).mp (h _)
  · intro h a
    rw [ckn_at hB (show i < j + 1 by omega), ckn_at hB (show j < j + 1 by omega)]
    refine cnt_mono fun k _ hp => ?_
    simp only [Bool.and_eq_true, Bool.or_eq_true, beq_iff_eq, hB k i, hB k j] at hp ⊢
    rw [hB i j] at h
    refine ⟨hp.1, .inr ?_⟩
    rcases hp.2 with rfl | q
    · exact h
    · exact .then q h
end
end Go.Proofs.Ytkadlopcomjonaa.pg
/- Edges make up what happens before what; a swap of two that do not depend on each other leaves it; chains. -/
namespace Go.Proofs.Ytkadlopcomjonaa.pg
set_option linter.unusedVariables false
/-- Is there an edge? -/
def edgeB (d B : Nat → Nat → Bool) (i j : Nat) : Bool := decide (i < j) && (d i j && !sB d B j (i + 1) i)
theorem edgeB_iff (d B : Nat → Nat → Bool) (i j : Nat) : edgeB d B i j = true ↔ i < j ∧ d i j = true ∧ sB d B j (i + 1) i = false := by
  unfold edgeB
  simp only [Bool.and_eq_true, decide_eq_true_eq, Bool.not_eq_true']
section
variable {d B : Nat → Nat → Bool} (hB : Tells d B)
include hB
theorem edgeB_is {i j : Nat} : edgeB d B i j = true ↔ (HB d i j ∧ ∀ k, ¬ (HB d i k ∧ HB d k j)) := by
  rw [edgeB_iff]
  constructor
  · rintro ⟨h1, h2⟩
    exact (edge_iff hB h1).mpr h2
  · intro h
    exact ⟨h.1.lt, (edge_iff hB h.1.lt).mp h⟩
theorem edgeB_hb {i j : Nat} (h : edgeB d B i j = true) : HB d i j := ((edgeB_is hB).mp h).1
theorem edge_last_n : ∀ (n i m j : Nat), j - m ≤ n → m < j → d m j = true → (i = m ∨ HB d i m) → ∃ m, edgeB d B m j = true ∧ (i = m ∨ HB d i m)
  | 0, i, m, j, h, h1, _, _ => by omega
  | n + 1, i, m, j, h, h1, h2, h3 => by
    by_cases c : sB d B j (m + 1) m = true
    · obtain ⟨i', q1, q2, q3, q4⟩ := (sB_iff hB j (m + 1) m).mp c
      rcases q4 with q4 | q4
      · omega
      · refine edge_last_n n i i' j (by omega) q2 q3 (.inr ?_)
        rcases h3 with rfl | h3
        · exact q4
        · exact .then h3 q4
    · exact ⟨m, (edgeB_iff d B m j).mpr ⟨h1, h2, by simpa using c⟩, h3⟩
/-- The last step on a way is an edge. -/
theorem edge_last {i j : Nat} (h : HB d i j) : ∃ m, edgeB d B m j = true ∧ (i = m ∨ HB d i m) := by
  obtain ⟨m, h1, h2, h3⟩ := h.last
  exact edge_last_n hB _ i m j (Nat.le_refl _) h1 h2 h3
/-- The first step on a way can be an edge. -/
theorem edge_first_n : ∀ (n i j : Nat), j ≤ n → HB d i j → ∃ m, edgeB d B i m = true ∧ (m = j ∨ HB d m j)
  | 0, i, j, h, q => by have := q.lt; omega
  | n + 1, i, j, h, q => by
    obtain ⟨m, h1, h2⟩ := edge_last hB q
    have hm := edgeB_hb hB h1
    rcases h2 with rfl | h2
    · exact ⟨j, h1, .inl rfl⟩
    · obtain ⟨k, k1, k2⟩ := edge_first_n n i m (by have := hm.lt; omega) h2
      refine ⟨k, k1, .inr ?_⟩
      rcases k2 with rfl | k2
      · exact hm
      · exact .then k2 hm
theorem edge_first {i j : Nat} (h : HB d i j) : ∃ m, edgeB d B i m = true ∧ (m = j ∨ HB d m j) := edge_first_n hB j i j (Nat.le_refl _) h
end
/-- Two neighbours changed about. -/
def swp (i k : Nat) : Nat := if k = i then i + 1 else if k = i + 1 then i else k
theorem swp_swp (i k : Nat) : swp i (swp i k) = k := by unfold swp; split <;> split <;> (try split) <;> omega
theorem swp_lt {i k n : Nat} (h : i + 1 < n) (hk : k < n) : swp i k < n := by unfold swp; split <;> (try split) <;> omega
theorem swp_inj {i a b : Nat} (h : swp i a = swp i b) : a = b := by rw [← swp_swp i a, h, swp_swp]
theorem hb_swp {d d' : Nat → Nat → Bool} {i : Nat} (hd : ∀ a b, d a b = true → d' (swp i a) (swp i b) = true) (h0 : d i (i + 1) = false) {a b : Nat} (h : HB d a b) : HB d' (swp i a) (swp i b) := by
  induction h with
  | @one a b hab q =>
    refine .one ?_ (hd _ _ q)
    unfold swp
    by_cases c : a = i ∧ b = i + 1
    · obtain ⟨rfl, rfl⟩ := c
      rw [h0] at q; cases q
    · (repeat' split) <;> omega
  | «then» _ _ h1 h2 => exact .then h1 h2
theorem cnt_swp2 (p : Nat → Bool) (i : Nat) : cnt (fun k => p (swp i k)) (i + 2) = cnt p (i + 2) := by
  have e : cnt (fun k => p (swp i k)) i = cnt p i := cnt_congr fun k hk => by
    have : swp i k = k := by unfold swp; split <;> (try split) <;> omega
    simp only [this]
  have e1 : swp i i = i + 1 := by simp [swp]
  have e2 : swp i (i + 1) = i := by simp [swp]
  show (cnt (fun k => p (swp i k)) i + (if p (swp i i) then 1 else 0)) + (if p (swp i (i + 1)) then 1 else 0) = (cnt p i + (if p i then 1 else 0)) + (if p (i + 1) then 1 else 0)
  rw [e, e1, e2]
  omega
theorem cnt_swp (p : Nat → Bool) (i : Nat) : ∀ n, i + 2 ≤ n → cnt (fun k => p (swp i k)) n = cnt p n
  | 0, h => by omega
  | n + 1, h => by
    by_cases c : n + 1 = i + 2
    · rw [c]; exact cnt_swp2 p i
    · have ih := cnt_swp p i n (by omega)
      have e : swp i n = n := by unfold swp; split <;> (try split) <;> omega
      show cnt (fun k => p (swp i k)) n + (if p (swp i n) then 1 else 0) = cnt p n + (if p n then 1 else 0)
      rw [ih, e]
/-- The clocks of a trace with two neighbours changed about that do not depend on each other. -/
theorem ck_swp {d d' B B' : Nat → Nat → Bool} (hB : Tells d B) (hB' : Tells d' B') {g g' : Nat → Nat} {i n : Nat} (hn : i + 2 ≤ n) (hd : ∀ a b, d' a b = d (swp i a) (swp i b)) (hg : ∀ a, g' a = g (swp i a)) (h0 : d i (i + 1) = false) (h1 : d (i + 1) i = false) {j : Nat} (hj : j < n) (a : Nat) :
    ck B' g' (swp i j) a = ck B g j a := by
  rw [ckn_at hB' (swp_lt (by omega) hj), ckn_at hB hj, ← cnt_swp _ i n hn]
  refine cnt_congr fun k _ => ?_
  have key : HB d' (swp i k) (swp i j) ↔ HB d k j := by
    constructor
    · intro h
      have := hb_swp (d := d') (d' := d) (i := i) (fun a b q => by rw [hd] at q; exact q) (by rw [hd]; unfold swp; simp; exact h1) h
      rwa [swp_swp, swp_swp] at this
    · intro h
      exact hb_swp (fun a b q => by rw [hd, swp_swp, swp_swp]; exact q) h0 h
  simp only [hg, swp_swp, Bool.and_eq_true, Bool.or_eq_true, beq_iff_eq, hB' _ _, hB k j, key]
  constructor
  · rintro ⟨q1, q2 | q2⟩
    · exact ⟨q1, .inl (swp_inj q2)⟩
    · exact ⟨q1, .inr q2⟩
  · rintro ⟨q1, q2 | q2⟩
    · exact ⟨q1, .inl (by rw [q2])⟩
    · exact ⟨q1, .inr q2⟩
/-- How many stand ahead of each: along every edge one more, and no more than by some edge. -/
structure High (n : Nat) (e : Nat → Nat → Bool) (h : Nat → Int) : Prop where
  pos : ∀ j, j < n → 0 ≤ h j
  up : ∀ i j, i < j → j < n → e i j = true → h i + 1 ≤ h j
  some : ∀ j, j < n → h j = 0 ∨ ∃ i, i < j ∧ e i j = true ∧ h j = h i + 1
theorem High.hb {d B : Nat → Nat → Bool} (hB : Tells d B) {n : Nat} {h : Nat → Int} (hh : High n (edgeB d B) h) : ∀ (m i j : Nat), j ≤ m → j < n → HB d i j → h i + 1 ≤ h j
  | 0, i, j, h1, _, q => by have := q.lt; omega
  | m + 1, i, j, h1, h2, q => by
    obtain ⟨k, k1, k2⟩ := edge_last hB q
    have hk := ((edgeB_iff d B k j).mp k1).1
    have u := hh.up k j hk h2 k1
    rcases k2 with rfl | k2
    · exact u
    · have := hh.hb hB m i k (by omega) (by omega) k2
      omega
/-- As many as a goroutine has: no more than are in a chain. -/
theorem High.own {d B : Nat → Nat → Bool} (hB : Tells d B) {g : Nat → Nat} {n : Nat} (ho : Ord d g n) {h : Nat → Int} (hh : High n (edgeB d B) h) (a : Nat) (H : Int) (h0 : 0 ≤ H) (hH : ∀ j, j < n → h j + 1 ≤ H) :
    ∀ m, m ≤ n → (cnt (fun k => g k == a) m : Int) ≤ H ∧ (cnt (fun k => g k == a) m = 0 ∨ ∃ k, k < m ∧ g k = a ∧ (cnt (fun k => g k == a) m : Int) ≤ h k + 1)
  | 0, _ => ⟨by show ((0 : Nat) : Int) ≤ H; omega, .inl rfl⟩
  | m + 1, hm => by
    obtain ⟨i1, i2⟩ := hh.own hB ho a H h0 hH m (by omega)
    have e : cnt (fun k => g k == a) (m + 1) = cnt (fun k => g k == a) m + (if (g m == a) = true then 1 else 0) := rfl
    by_cases c : g m = a
    · have c2 : (g m == a) = true := by simpa using c
      rw [if_pos c2] at e
      rw [e]
      have key : ((cnt (fun k => g k == a) m + 1 : Nat) : Int) ≤ h m + 1 := by
        rcases i2 with q | ⟨k, k1, k2, k3⟩
        · have := hh.pos m (by omega); rw [q]; omega
        · have := hh.hb hB m k m (Nat.le_refl _) (by omega) (.one k1 (ho k m k1 (by omega) (by rw [k2, c])))
          omega
      refine ⟨by have := hH m (by omega); omega, .inr ⟨m, by omega, c, key⟩⟩
    · have c2 : ¬ (g m == a) = true := by simpa using c
      rw [if_neg c2] at e
      rw [e, Nat.add_zero]
      refine ⟨i1, i2.imp_right ?_⟩
      rintro ⟨k, k1, k2, k3⟩
      exact ⟨k, by omega, k2, k3⟩
end Go.Proofs.Ytkadlopcomjonaa.pg
/- Orders that keep what happens before what: what may come next, the canonical order, how many there are. -/
namespace Go.Proofs.Ytkadlopcomjonaa.pg
set_option linter.unusedVariables false
set_option linter.unusedSectionVars false
theorem cnt_up {p : Nat → Bool} {m : Nat} : ∀ {n : Nat}, m ≤ n → cnt p m ≤ cnt p n
  | 0, h => by have : m = 0 := by omega
               subst this; exact Nat.le_refl _
  | n + 1, h => by
    by_cases e : m = n + 1
    · subst e; exact Nat.le_refl _
    · have := cnt_up (p := p) (m := m) (n := n) (by omega)
      show _ ≤ cnt p n + _
      omega
theorem cnt_step {p : Nat → Bool} {m n : Nat} (h : m < n) (hp : p m = true) : cnt p m < cnt p n := by
  have h1 := cnt_up (p := p) (show m + 1 ≤ n by omega)
  have h2 : cnt p (m + 1) = cnt p m + 1 := by show cnt p m + _ = _; rw [if_pos hp]
  omega
theorem cnt_ins {p : Nat → Bool} {x : Nat} (hp : p x = false) : ∀ {n : Nat}, x < n → cnt (fun k => p k || k == x) n = cnt p n + 1
  | 0, h => by omega
  | n + 1, h => by
    show cnt (fun k => p k || k == x) n + (if (p n || n == x) = true then 1 else 0) = cnt p n + (if p n = true then 1 else 0) + 1
    by_cases e : x = n
    · subst e
      have : cnt (fun k => p k || k == x) x = cnt p x := cnt_congr fun k hk => by
        have : (k == x) = false := by simp; omega
        rw [this, Bool.or_false]
      rw [this, hp]
      simp
    · have ih := cnt_ins hp (n := n) (by omega)
      have : (n == x) = false := by simp; omega
      rw [ih, this, Bool.or_false]
      omega
/-- May it come next behind what is placed? -/
def freeB (B : Nat → Nat → Bool) (S : Nat → Bool) (i : Nat) : Bool := !S i && (List.range i).all fun j => S j || !B j i
theorem freeB_iff {B : Nat → Nat → Bool} {S : Nat → Bool} {i : Nat} : freeB B S i = true ↔ S i = false ∧ ∀ j, j < i → B j i = true → S j = true := by
  unfold freeB
  rw [Bool.and_eq_true, Bool.not_eq_true', List.all_eq_true]
  constructor
  · rintro ⟨h1, h2⟩
    refine ⟨h1, fun j hj hb => ?_⟩
    have := h2 j (List.mem_range.mpr hj)
    rw [hb] at this
    simpa using this
  · rintro ⟨h1, h2⟩
    refine ⟨h1, fun j hj => ?_⟩
    have := h2 j (List.mem_range.mp hj)
    cases hb : B j i with
    | false => simp
    | true => simp [this hb]
/-- The one that the canonical order takes. -/
structure Pick (B : Nat → Nat → Bool) (g : Nat → Nat) (n : Nat) (S : Nat → Bool) (i : Nat) : Prop where
  lt : i < n
  fr : freeB B S i = true
  lo : ∀ k, k < n → freeB B S k = true → g i ≤ g k
  fi : ∀ k, k < n → freeB B S k = true → g k = g i → i ≤ k
theorem Pick.same {B : Nat → Nat → Bool} {g : Nat → Nat} {n : Nat} {S : Nat → Bool} {i j : Nat} (h : Pick B g n S i) (h' : Pick B g n S j) : i = j := by
  have h1 := h.lo j h'.lt h'.fr
  have h2 := h'.lo i h.lt h.fr
  have h3 := h.fi j h'.lt h'.fr (by omega)
  have h4 := h'.fi i h.lt h.fr (by omega)
  omega
def memS (L : List Nat) (i : Nat) : Bool := decide (i ∈ L)
def insS (S : Nat → Bool) (x i : Nat) : Bool := S i || i == x
theorem memS_nil : memS [] = fun _ => false := by funext i; simp [memS]
theorem memS_snoc (L : List Nat) (x : Nat) : memS (L ++ [x]) = insS (memS L) x := by
  funext i
  unfold memS insS
  rw [Bool.eq_iff_iff]
  simp
/-- The beginning of the canonical order. -/
def OrdL (B : Nat → Nat → Bool) (g : Nat → Nat) (n : Nat) (L : List Nat) : Prop := ∀ k x, L[k]? = some x → Pick B g n (memS (L.take k)) x
/-- The beginning of any order that keeps what happens before what. -/
def LinP (B : Nat → Nat → Bool) (n : Nat) (L : List Nat) : Prop := ∀ k x, L[k]? = some x → x < n ∧ freeB B (memS (L.take k)) x = true
theorem OrdL.same {B : Nat → Nat → Bool} {g : Nat → Nat} {n : Nat} {L L' : List Nat} (h : OrdL B g n L) (h' : OrdL B g n L') (e : L.length = L'.length) : L = L' := by
  have key : ∀ k, k ≤ L.length → L.take k = L'.take k := by
    intro k
    induction k with
    | zero => intro _; simp
    | succ k ih =>
      intro hk
      have ih := ih (by omega)
      have h1 : L[k]? = some (L[k]'(by omega)) := List.getElem?_eq_getElem (by omega)
      have h2 : L'[k]? = some (L'[k]'(by omega)) := List.getElem?_eq_getElem (by omega)
      have p1 := h k _ h1
      have p2 := h' k _ h2
      rw [ih] at p1
      rw [List.take_add_one, List.take_add_one, h1, h2, p1.same p2, ih]
  have := key L.length (Nat.le_refl _)
  rwa [List.take_length, e, List.take_length] at this
theorem snoc_at {P : List Nat → Nat → Prop} {L : List Nat} {x : Nat} (h : ∀ k y, L[k]? = some y → P (L.take k) y) (hx : P L x) : ∀ k y, (L ++ [x])[k]? = some y → P ((L ++ [x]).take k) y := by
  intro k y q
  by_cases c : k < L.length
  · rw [List.getElem?_append_left c] at q
    rw [List.take_append_of_le_length (by omega)]
    exact h k y q
  · rw [List.getElem?_append_right (by omega)] at q
    have hk : k = L.length := by
      have := (List.getElem?_eq_some_iff.mp q).1
      simp only [List.length_cons, List.length_nil] at this
      omega
    subst hk
    rw [Nat.sub_self] at q
    simp only [List.getElem?_cons_zero, Option.some.injEq] at q
    subst q
    rwa [List.take_left]
theorem OrdL.nil (B : Nat → Nat → Bool) (g : Nat → Nat) (n : Nat) : OrdL B g n [] := fun k x h => by simp at h
theorem OrdL.snoc {B : Nat → Nat → Bool} {g : Nat → Nat} {n : Nat} {L : List Nat} {x : Nat} (h : OrdL B g n L) (hx : Pick B g n (memS L) x) : OrdL B g n (L ++ [x]) := snoc_at (P := fun L x => Pick B g n (memS L) x) h hx
theorem OrdL.lin {B : Nat → Nat → Bool} {g : Nat → Nat} {n : Nat} {L : List Nat} (h : OrdL B g n L) : LinP B n L := fun k x q => ⟨(h k x q).lt, (h k x q).fr⟩
theorem LinP.nil (B : Nat → Nat → Bool) (n : Nat) : LinP B n [] := fun k x h => by simp at h
theorem LinP.snoc {B : Nat → Nat → Bool} {n : Nat} {L : List Nat} {x : Nat} (h : LinP B n L) (hx : x < n) (hf : freeB B (memS L) x = true) : LinP B n (L ++ [x]) := snoc_at (P := fun L x => x < n ∧ freeB B (memS L) x = true) h ⟨hx, hf⟩
/-- A set that has the past of all its own. -/
structure DownS (B : Nat → Nat → Bool) (n : Nat) (S : Nat → Bool) : Prop where
  lt : ∀ i, S i = true → i < n
  dn : ∀ i j, B j i = true → S i = true → S j = true
theorem DownS.nil (B : Nat → Nat → Bool) (n : Nat) : DownS B n fun _ => false := ⟨fun i h => (by cases h), fun i j _ h => (by cases h)⟩
theorem LinP.lt {B : Nat → Nat → Bool} {n : Nat} {L : List Nat} (h : LinP B n L) : ∀ x ∈ L, x < n := fun x hx => by
  obtain ⟨k, hk, e⟩ := List.getElem_of_mem hx
  exact (h k x (by rw [← e]; exact List.getElem?_eq_getElem hk)).1
theorem LinP.nodup {B : Nat → Nat → Bool} {n : Nat} {L : List Nat} (h : LinP B n L) : L.Nodup := by
  rw [List.nodup_iff_pairwise_ne, List.pairwise_iff_getElem]
  intro i j hi hj hij e
  have h1 := (freeB_iff.mp (h j _ (List.getElem?_eq_getElem hj)).2).1
  have : L[j] ∈ L.take j := by
    rw [← e]
    exact List.mem_iff_getElem?.mpr ⟨i, by rw [List.getElem?_take_of_lt hij]; exact List.getElem?_eq_getElem hi⟩
  unfold memS at h1
  rw [decide_eq_false_iff_not] at h1
  exact h1 this
section
variable {d B : Nat → Nat → Bool} (hB : Tells d B) {g : Nat → Nat} {n : Nat} (ho : Ord d g n)
include hB
theorem LinP.down {L : List Nat} (h : LinP B n L) : DownS B n (memS L) := by
  refine ⟨fun i hi => h.lt i (of_decide_eq_true hi), fun i j hb hi => ?_⟩
  obtain ⟨k, hk, e⟩ := List.getElem_of_mem (of_decide_eq_true hi)
  have h1 := (freeB_iff.mp (h k i (by rw [← e]; exact List.getElem?_eq_getElem hk)).2).2 j ((hB j i).mp hb).lt hb
  exact decide_eq_true (List.mem_of_mem_take (of_decide_eq_true h1))
theorem DownS.ins {S : Nat → Bool} (h : DownS B n S) {x : Nat} (hx : x < n) (hf : freeB B S x = true) : DownS B n (insS S x) := by
  refine ⟨fun i hi => ?_, fun i j hb hi => ?_⟩
  · unfold insS at hi
    rw [Bool.or_eq_true, beq_iff_eq] at hi
    rcases hi with hi | rfl
    · exact h.lt i hi
    · exact hx
  · unfold insS at hi ⊢
    rw [Bool.or_eq_true, beq_iff_eq] at hi
    rw [Bool.or_eq_true]
    left
    rcases hi with hi | rfl
    · exact h.dn i j hb hi
    · exact (freeB_iff.mp hf).2 j ((hB j i).mp hb).lt hb
include ho
theorem DownS.chn {S : Nat → Bool} (h : DownS B n S) : Chn g S := fun k k' hk hlt e => h.dn k k' ((hB k' k).mpr (.one hlt (ho k' k hlt (h.lt k hk) e))) hk
end
/-- How many of a goroutine are placed. -/
def cutS (g : Nat → Nat) (n : Nat) (S : Nat → Bool) (a : Nat) : Nat := cnt (fun k => g k == a && S k) n
def incC (c : Nat → Nat) (a : Nat) : Nat → Nat := fun b => if b = a then c b + 1 else c b
theorem cut_ins {g : Nat → Nat} {n : Nat} {S : Nat → Bool} {x : Nat} (hx : x < n) (hs : S x = false) : cutS g n (insS S x) = incC (cutS g n S) (g x) := by
  funext a
  unfold cutS incC insS
  by_cases e : a = g x
  · rw [if_pos e]
    rw [← cnt_ins (p := fun k => g k == a && S k) (x := x) (by rw [hs, Bool.and_false]) hx]
    refine cnt_congr fun k _ => ?_
    simp only [Bool.and_eq_true, Bool.or_eq_true, beq_iff_eq]
    constructor
    · rintro ⟨h1, h2 | h2⟩
      · exact .inl ⟨h1, h2⟩
      · exact .inr h2
    · rintro (⟨h1, h2⟩ | h2)
      · exact ⟨h1, .inl h2⟩
      · subst h2; exact ⟨e.symm, .inr rfl⟩
  · rw [if_neg e]
    refine cnt_congr fun k _ => ?_
    simp only [Bool.and_eq_true, Bool.or_eq_true, beq_iff_eq]
    constructor
    · rintro ⟨h1, h2 | h2⟩
      · exact ⟨h1, h2⟩
      · subst h2; exact absurd h1.symm e
    · rintro ⟨h1, h2⟩; exact ⟨h1, .inl h2⟩
/-- The places of a goroutine. -/
def plc (g : Nat → Nat) (n a : Nat) : List Nat := (List.range n).filter fun k => g k == a
theorem plc_more (g : Nat → Nat) (n a : Nat) : plc g (n + 1) a = plc g n a ++ (if g n = a then [n] else []) := by
  unfold plc
  rw [List.range_succ, List.filter_append]
  congr 1
  by_cases e : g n = a
  · rw [if_pos e]; simp [e]
  · rw [if_neg e]; simp [e]
theorem plc_len (g : Nat → Nat) (a : Nat) : ∀ n, (plc g n a).length = cnt (fun k => g k == a) n
  | 0 => rfl
  | n + 1 => by
    rw [plc_more, List.length_append, plc_len g a n]
    show _ = _ + _
    by_cases e : g n = a
    · rw [if_pos e, if_pos (by simpa using e)]; rfl
    · rw [if_neg e, if_neg (by simpa using e)]; rfl
theorem plc_at {g : Nat → Nat} {a : Nat} : ∀ {n c x : Nat}, (plc g n a)[c]? = some x ↔ x < n ∧ g x = a ∧ cnt (fun k => g k == a) x = c
  | 0, c, x => by simp [plc]
  | n + 1, c, x => by
    have ih := plc_at (g := g) (a := a) (n := n) (c := c) (x := x)
    have hl := plc_len g a n
    rw [plc_more]
    by_cases e : g n = a
    · rw [if_pos e]
      by_cases hc : c < (plc g n a).length
      · rw [List.getElem?_append_left hc, ih]
        constructor
        · rintro ⟨h1, h2⟩; exact ⟨by omega, h2⟩
        · rintro ⟨h1, h2, h3⟩
          refine ⟨?_, h2, h3⟩
          by_cases q : x = n
          · subst q; omega
          · omega
      · rw [List.getElem?_append_right (by omega)]
        constructor
        · intro q
          have hk := (List.getElem?_eq_some_iff.mp q).1
          simp only [List.length_cons, List.length_nil] at hk
          have : c - (plc g n a).length = 0 := by omega
          rw [this] at q
          simp only [List.getElem?_cons_zero, Option.some.injEq] at q
          subst q
          exact ⟨by omega, e, by omega⟩
        · rintro ⟨h1, h2, h3⟩
          by_cases q : x = n
          · subst q
            rw [show c - (plc g x a).length = 0 by omega]; rfl
          · have := cnt_step (p := fun k => g k == a) (show x < n by omega) (by simpa using h2)
            omega
    · rw [if_neg e, List.append_nil, ih]
      constructor
      · rintro ⟨h1, h2⟩; exact ⟨by omega, h2⟩
      · rintro ⟨h1, h2, h3⟩
        refine ⟨?_, h2, h3⟩
        by_cases q : x = n
        · subst q; exact absurd h2 e
        · omega
section
variable {g : Nat → Nat} {n : Nat} {S : Nat → Bool} (hS : Chn g S) (hn : ∀ i, S i = true → i < n)
include hS hn
/-- The next one of a goroutine. -/
theorem nx_of {a x : Nat} (h : (plc g n a)[cutS g n S a]? = some x) : x < n ∧ g x = a ∧ S x = false ∧ ∀ y, y < x → g y = a → S y = true := by
  obtain ⟨h1, h2, h3⟩ := plc_at.mp h
  refine ⟨h1, h2, ?_, fun y hy hg => ?_⟩
  · rw [Bool.eq_false_iff]
    intro q
    have e1 : cnt (fun k => g k == a) (x + 1) = cnt (fun k => g k == a) x + 1 := by show _ + _ = _; rw [if_pos (by simpa using h2)]
    have e2 : cnt (fun k => g k == a) (x + 1) ≤ cnt (fun k => g k == a && S k) (x + 1) := cnt_mono fun k hk hp => by
      rw [Bool.and_eq_true]
      refine ⟨hp, ?_⟩
      by_cases c : k = x
      · rw [c]; exact q
      · exact hS x k q (by omega) (by rw [h2]; simpa using hp)
    have e3 := cnt_up (p := fun k => g k == a && S k) (show x + 1 ≤ n by omega)
    unfold cutS at h3
    omega
  · apply Classical.byContradiction
    intro q
    have q' : S y = false := by simpa using q
    have e1 : cnt (fun k => g k == a && S k) n = cnt (fun k => g k == a && S k) y := cnt_cut (by omega) fun k k1 k2 => by
      rw [Bool.eq_false_iff]
      intro p
      rw [Bool.and_eq_true, beq_iff_eq] at p
      by_cases c : k = y
      · rw [c, q'] at p; cases p.2
      · exact q (hS k y p.2 (by omega) (hg.trans p.1.symm))
    have e2 : cnt (fun k => g k == a && S k) y ≤ cnt (fun k => g k == a) y := cnt_mono fun k _ hp => by
      rw [Bool.and_eq_true] at hp; exact hp.1
    have e3 := cnt_step (p := fun k => g k == a) hy (by simpa using hg)
    unfold cutS at h3
    omega
theorem nx_to {x : Nat} (hx : x < n) (hs : S x = false) (hb : ∀ y, y < x → g y = g x → S y = true) : (plc g n (g x))[cutS g n S (g x)]? = some x := by
  refine plc_at.mpr ⟨hx, rfl, ?_⟩
  unfold cutS
  rw [cnt_cut (p := fun k => g k == g x && S k) (m := x) (n := n) (by omega) fun k k1 k2 => by
    rw [Bool.eq_false_iff]
    intro p
    rw [Bool.and_eq_true, beq_iff_eq] at p
    by_cases c : k = x
    · rw [c, hs] at p; cases p.2
    · have := hS k x p.2 (by omega) p.1.symm
      rw [hs] at this; cases this]
  refine cnt_congr fun k hk => ?_
  rw [Bool.and_eq_true]
  constructor
  · intro h; exact ⟨h, hb k hk (by simpa using h)⟩
  · exact fun h => h.1
end
/-- Has a cut all of an event's past? -/
def withinB (B : Nat → Nat → Bool) (g : Nat → Nat) (c : Nat → Nat) (x : Nat) : Bool := (List.range 6).all fun a => decide (ck B g x a ≤ incC c (g x) a)
theorem withinB_iff {B : Nat → Nat → Bool} {g : Nat → Nat} {c : Nat → Nat} {x : Nat} : withinB B g c x = true ↔ ∀ a, a < 6 → ck B g x a ≤ incC c (g x) a := by
  unfold withinB
  simp [List.all_eq_true, List.mem_range]
section
variable {d B : Nat → Nat → Bool} (hB : Tells d B) {g : Nat → Nat} {n : Nat} (ho : Ord d g n) (hg : ∀ k, k < n → g k < 6)
include hB ho hg
theorem within_iff {S : Nat → Bool} (hS : DownS B n S) {x : Nat} (hx : x < n) (hs : S x = false) (hb : ∀ y, y < x → g y = g x → S y = true) : withinB B g (cutS g n S) x = true ↔ ∀ j, B j x = true → S j = true := by
  rw [withinB_iff, ← cut_ins hx hs]
  constructor
  · intro h j hj
    have hlt := ((hB j x).mp hj).lt
    by_cases e : g j = g x
    · exact hb j hlt e
    apply Classical.byContradiction
    intro q
    have q' : S j = false := by simpa using q
    have h1 := h (g j) (hg j (by omega))
    rw [ckn_at hB hx] at h1
    unfold cutS at h1
    have h2 : cnt (fun k => g k == g j && insS S x k) n < cnt (fun k => g k == g j && (k == x || B k x)) n := by
      refine cnt_lt (m := j) (fun k hk hp => ?_) (by omega) (by simp [hj]) (by unfold insS; simp [q']; omega)
      rw [Bool.and_eq_true, beq_iff_eq] at hp
      rw [Bool.and_eq_true, beq_iff_eq]
      refine ⟨hp.1, ?_⟩
      have hp2 := hp.2
      unfold insS at hp2
      rw [Bool.or_eq_true, beq_iff_eq] at hp2
      rcases hp2 with hp2 | rfl
      · have hkj : k < j := by
          apply Classical.byContradiction
          intro c
          by_cases c2 : k = j
          · rw [c2, q'] at hp2; cases hp2
          · exact q (hS.chn hB ho k j hp2 (by omega) hp.1.symm)
        exact past_chn hB ho hx j k (show (j == x || B j x) = true by rw [hj, Bool.or_true]) hkj hp.1
      · exact absurd hp.1.symm e
    omega
  · intro h a ha
    rw [ckn_at hB hx]
    refine cnt_mono fun k _ hp => ?_
    rw [Bool.and_eq_true] at hp ⊢
    refine ⟨hp.1, ?_⟩
    have hp2 := hp.2
    rw [Bool.or_eq_true, beq_iff_eq] at hp2
    unfold insS
    rw [Bool.or_eq_true, beq_iff_eq]
    rcases hp2 with c | c
    · exact .inr c
    · exact .inl (h k c)
end
/-- What may come next, by goroutine. -/
def freeA (B : Nat → Nat → Bool) (g : Nat → Nat) (n : Nat) (c : Nat → Nat) (a : Nat) : Option Nat := ((plc g n a)[c a]?).filter (withinB B g c)
def freeL (B : Nat → Nat → Bool) (g : Nat → Nat) (n : Nat) (c : Nat → Nat) : List Nat := (List.range 6).filterMap (freeA B g n c)
theorem freeA_g {B : Nat → Nat → Bool} {g : Nat → Nat} {n : Nat} {c : Nat → Nat} {a x : Nat} (h : freeA B g n c a = some x) : x < n ∧ g x = a := by
  unfold freeA at h
  rw [Option.filter_eq_some_iff] at h
  obtain ⟨h1, h2, _⟩ := plc_at.mp h.1
  exact ⟨h1, h2⟩
theorem freeL_mono (B : Nat → Nat → Bool) (g : Nat → Nat) (n : Nat) (c : Nat → Nat) : (freeL B g n c).Pairwise fun x y => g x < g y := by
  unfold freeL
  rw [List.pairwise_filterMap]
  refine List.Pairwise.imp (R := fun a b => a < b) ?_ List.pairwise_lt_range
  intro a b hab x hx y hy
  rw [(freeA_g hx).2, (freeA_g hy).2]
  exact hab
theorem freeL_nodup (B : Nat → Nat → Bool) (g : Nat → Nat) (n : Nat) (c : Nat → Nat) : (freeL B g n c).Nodup := by
  rw [List.nodup_iff_pairwise_ne]
  refine (freeL_mono B g n c).imp fun h e => ?_
  rw [e] at h; omega
section
variable {d B : Nat → Nat → Bool} (hB : Tells d B) {g : Nat → Nat} {n : Nat} (ho : Ord d g n) (hg : ∀ k, k < n → g k < 6)
include hB ho hg
theorem freeL_mem {S : Nat → Bool} (hS : DownS B n S) (x : Nat) : x ∈ freeL B g n (cutS g n S) ↔ x < n ∧ freeB B S x = true := by
  unfold freeL
  rw [List.mem_filterMap]
  constructor
  · rintro ⟨a, _, h⟩
    unfold freeA at h
    rw [Option.filter_eq_some_iff] at h
    obtain ⟨h1, h2, h3, h4⟩ := nx_of (hS.chn hB ho) hS.lt h.1
    refine ⟨h1, freeB_iff.mpr ⟨h3, fun j _ hj => ?_⟩⟩
    subst h2
    exact (within_iff hB ho hg hS h1 h3 h4).mp h.2 j hj
  · rintro ⟨h1, h2⟩
    obtain ⟨h3, h4⟩ := freeB_iff.mp h2
    have hb : ∀ y, y < x → g y = g x → S y = true := fun y hy e => h4 y hy ((hB y x).mpr (.one hy (ho y x hy h1 e)))
    refine ⟨g x, List.mem_range.mpr (hg x h1), ?_⟩
    unfold freeA
    rw [Option.filter_eq_some_iff]
    exact ⟨nx_to (hS.chn hB ho) hS.lt h1 h3 hb, (within_iff hB ho hg hS h1 h3 hb).mpr fun j hj => h4 j ((hB j x).mp hj).lt hj⟩
theorem freeL_pick {S : Nat → Bool} (hS : DownS B n S) {x : Nat} {l : List Nat} (h : freeL B g n (cutS g n S) = x :: l) : Pick B g n S x := by
  have hm := freeL_mem hB ho hg hS
  have hp := freeL_mono B g n (cutS g n S)
  rw [h] at hm hp
  obtain ⟨h1, h2⟩ := (hm x).mp List.mem_cons_self
  have hlo := (List.pairwise_cons.mp hp).1
  refine ⟨h1, h2, fun k hk hf => ?_, fun k hk hf e => ?_⟩
  · rcases List.mem_cons.mp ((hm k).mpr ⟨hk, hf⟩) with rfl | q
    · exact Nat.le_refl _
    · have := hlo k q; omega
  · rcases List.mem_cons.mp ((hm k).mpr ⟨hk, hf⟩) with rfl | q
    · exact Nat.le_refl _
    · have := hlo k q; omega
end
/-- Where some are not placed one may come next. -/
theorem free_some {B : Nat → Nat → Bool} {S : Nat → Bool} : ∀ {n : Nat}, (∃ i, i < n ∧ S i = false) → ∃ i, i < n ∧ freeB B S i = true
  | 0, ⟨i, h, _⟩ => by omega
  | n + 1, ⟨i, h, hs⟩ => by
    by_cases c : ∃ i, i < n ∧ S i = false
    · obtain ⟨k, h1, h2⟩ := free_some (B := B) c
      exact ⟨k, by omega, h2⟩
    · have hi : i = n := by
        apply Classical.byContradiction
        intro q
        exact c ⟨i, by omega, hs⟩
      subst hi
      refine ⟨i, by omega, freeB_iff.mpr ⟨hs, fun j hj _ => ?_⟩⟩
      apply Classical.byContradiction
      intro q
      exact c ⟨j, hj, by simpa using q⟩
theorem miss_some {S : Nat → Bool} : ∀ {n : Nat}, cnt S n < n → ∃ i, i < n ∧ S i = false
  | 0, h => by omega
  | n + 1, h => by
    by_cases c : S n = true
    · have h2 : cnt S (n + 1) = cnt S n + 1 := by show _ + _ = _; rw [if_pos c]
      obtain ⟨i, h3, h4⟩ := miss_some (S := S) (n := n) (by omega)
      exact ⟨i, by omega, h4⟩
    · exact ⟨n, by omega, by simpa using c⟩
theorem cnt_memS {n : Nat} : ∀ (L : List Nat), L.Nodup → (∀ x ∈ L, x < n) → cnt (memS L) n = L.length
  | [], _, _ => by rw [memS_nil, cnt_cut (m := 0) (n := n) (Nat.zero_le _) fun k _ _ => rfl]; rfl
  | x :: L, h, hl => by
    obtain ⟨h1, h2⟩ := List.nodup_cons.mp h
    have ih := cnt_memS L h2 fun y hy => hl y (by simp [hy])
    rw [List.length_cons, ← ih, ← cnt_ins (p := memS L) (x := x) (decide_eq_false h1) (hl x (by simp))]
    refine cnt_congr fun k _ => ?_
    unfold memS
    simp only [Bool.or_eq_true, decide_eq_true_eq, beq_iff_eq, List.mem_cons]
    exact ⟨fun q => q.symm, fun q => q.symm⟩
/-- How many ways there are to go on by so many. -/
def preC (B : Nat → Nat → Bool) (g : Nat → Nat) (n : Nat) : Nat → (Nat → Nat) → Nat
  | 0, _ => 1
  | m + 1, c => ((freeL B g n c).map fun x => preC B g n m (incC c (g x))).sum
def preS (B : Nat → Nat → Bool) (n : Nat) : Nat → (Nat → Bool) → Nat
  | 0, _ => 1
  | m + 1, S => (((List.range n).filter (freeB B S)).map fun x => preS B n m (insS S x)).sum
section
variable {d B : Nat → Nat → Bool} (hB : Tells d B) {g : Nat → Nat} {n : Nat} (ho : Ord d g n) (hg : ∀ k, k < n → g k < 6)
include hB ho hg
theorem pre_same : ∀ (m : Nat) {S : Nat → Bool}, DownS B n S → preC B g n m (cutS g n S) = preS B n m S
  | 0, S, _ => rfl
  | m + 1, S, hS => by
    have hp : (freeL B g n (cutS g n S)).Perm ((List.range n).filter (freeB B S)) := by
      rw [List.perm_ext_iff_of_nodup (freeL_nodup _ _ _ _) (List.nodup_range.filter _)]
      intro x
      rw [freeL_mem hB ho hg hS, List.mem_filter, List.mem_range]
    rw [preC, preS, ← (hp.map fun x => preS B n m (insS S x)).sum_nat]
    congr 1
    refine List.map_congr_left fun x hx => ?_
    obtain ⟨h1, h2⟩ := (freeL_mem hB ho hg hS x).mp hx
    rw [← cut_ins h1 (freeB_iff.mp h2).1]
    exact pre_same m (hS.ins hB h1 h2)
end
theorem sum_le {f h : Nat → Nat} : ∀ (l : List Nat), (∀ x ∈ l, f x ≤ h x) → (l.map f).sum ≤ (l.map h).sum
  | [], _ => Nat.le_refl _
  | x :: l, q => by
    have h1 := q x (by simp)
    have h2 := sum_le l fun y hy => q y (by simp [hy])
    simp only [List.map_cons, List.sum_cons]
    omega
theorem preS_up {B : Nat → Nat → Bool} {n : Nat} : ∀ (m : Nat) {S : Nat → Bool}, cnt S n + m < n → preS B n m S ≤ preS B n (m + 1) S
  | 0, S, h => by
    obtain ⟨i, h1, h2⟩ := free_some (B := B) (miss_some (S := S) (n := n) (by omega))
    rw [preS, preS]
    have hm : i ∈ (List.range n).filter (freeB B S) := List.mem_filter.mpr ⟨List.mem_range.mpr h1, h2⟩
    generalize (List.range n).filter (freeB B S) = l at hm
    cases l with
    | nil => cases hm
    | cons y l => simp only [List.map_cons, List.sum_cons, preS]; omega
  | m + 1, S, h => by
    rw [preS]
    conv => rhs; rw [preS]
    refine sum_le _ fun x hx => ?_
    obtain ⟨h1, h2⟩ := List.mem_filter.mp hx
    refine preS_up m ?_
    have : cnt (insS S x) n = cnt S n + 1 := cnt_ins (freeB_iff.mp h2).1 (List.mem_range.mp h1)
    omega
theorem preS_le {B : Nat → Nat → Bool} {n m : Nat} {S : Nat → Bool} : ∀ {k : Nat}, m ≤ k → cnt S n + k ≤ n → preS B n m S ≤ preS B n k S
  | 0, h, _ => by have : m = 0 := by omega
                  subst this; exact Nat.le_refl _
  | k + 1, h, hk => by
    by_cases e : m = k + 1
    · subst e; exact Nat.le_refl _
    · exact Nat.le_trans (preS_le (k := k) (by omega) (by omega)) (preS_up k (by omega))
end Go.Proofs.Ytkadlopcomjonaa.pg
