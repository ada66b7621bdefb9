/- slices.Backward of events: a contract for whatever loop stands over it. -/
import Derived.Test.YtdfnmlcpimiboaaM9
import Derived.Shelf.Abstract
import Derived.WalkKit
import Derived.Test.YtdfnmlcpimiboaaM2
import Derived.Laws.StructEq
namespace Go.Proofs.Ytdfnmlcpimiboaa.pg
open Go.ChangeShapes Go.WideShapes Go.ChangeAt Go.RowKit Go.Shelf
set_option linter.unusedVariables false
set_option linter.unusedSimpArgs false
set_option maxRecDepth 100000
attribute [local go_sem] Oper.semAt_some
/-- A load of many cells at once, inside a fence. -/
theorem inF_load_mid {F : Fence} {n : Nat} {P : Program} {ops : Array Oper} {rest : List Oper} {op : Oper} {a : Act} {w : World} {Q : Exit → Act → World → Prop} (hgd : op.guard = none) (ty : TypeId) (x : Operand) (ho : op.op = .load ty x)
    (b o : Nat) (hx : a.eval x = .pointer (some ⟨b, o, none⟩)) (cs : List Value) (d : TypeDesc) (hc : w.rangeAt b o cs)
    (hu : P.underlying ty = some d) (hd : d.isRow = true) (hi : (P.info? ty).map (·.size) = some cs.length)
    (h : wpListIn F n P ops Q rest (a.put op.dst (.agg cs.toArray)) w) : wpListIn F n P ops Q (op :: rest) a w :=
  wpListIn_plain hgd fun K hK => by
    refine ⟨fun f hf => ?_, ?_⟩
    · simp [Oper.about, ho] at hf
    · rw [Oper.semAt_plain F _ _ (by simp [ho])]
      unfold execOp
      simp only [ho, hx, Instr.loadAt, Instr.sureAddr, Sem.run_bind, Sem.run_pure, Result.andThen_ok, run_loadVar_mid w b o ty cs d hc hu hd hi]
      exact hK _ _ h
/-- The first k of the places below j, from the last one down. -/
def dn (j : Nat) : Nat → List { i : Nat // i < j }
  | 0 => []
  | k + 1 => if h : k < j then dn j k ++ [⟨j - 1 - k, by omega⟩] else dn j k
theorem dn_more {j k : Nat} (h : k < j) : dn j (k + 1) = dn j k ++ [⟨j - 1 - k, by omega⟩] := by rw [dn, dif_pos h]
theorem dn_len {j : Nat} : ∀ {k : Nat}, k ≤ j → (dn j k).length = k
  | 0, _ => rfl
  | k + 1, h => by rw [dn_more (by omega), List.length_append, dn_len (by omega), List.length_singleton]
/-- What a round keeps: what lay below n₀, and the iterator's own box. -/
def Keeps (n₀ Bs : Nat) (W W' : World) : Prop := Below n₀ W W' ∧ W'.heap[Bs]? = W.heap[Bs]?
theorem Keeps.trans {n₀ Bs : Nat} {A B C : World} (h : Keeps n₀ Bs A B) (k : Keeps n₀ Bs B C) : Keeps n₀ Bs A C := ⟨h.1.trans k.1, k.2.trans h.2⟩
theorem Keeps.refl (n₀ Bs : Nat) (W : World) : Keeps n₀ Bs W W := ⟨Below.refl _ _, rfl⟩
/-- The events, each at its place below n₀. -/
def EvAt (n₀ : Nat) (W : World) (a : Option Addr) (j cap : Nat) (ev : Nat → Ev) : Prop := ∀ i, i < j → ∃ b o, (∀ wx, (Instr.indexAt 22 (.slice a j cap) (.int .i64 (i : Int))).run Try.prog wx = .ok (.pointer (some ⟨b, o, none⟩)) wx) ∧ b < n₀ ∧ W.rangeAt b o (ev i).cells
theorem EvAt.below {n₀ : Nat} {W W' : World} {a : Option Addr} {j cap : Nat} {ev : Nat → Ev} (h : EvAt n₀ W a j cap ev) (hb : Below n₀ W W') : EvAt n₀ W' a j cap ev := fun i hi => by
  obtain ⟨b, o, h1, h2, h3⟩ := h i hi
  exact ⟨b, o, h1, h2, fun q v hv => (hb.cell (p := ⟨b, o + q, none⟩) h2).trans (h3 q v hv)⟩
theorem keeps_b {n₀ Bs : Nat} {w : World} (hn : n₀ ≤ w.heap.size) (hB : Bs < w.heap.size) (W : World) (l : Nat) (o o' : Obj) (hl : w.heap.size ≤ l) (h : W.heap[l]? = some o) (h1 : o.isCells = false) (h2 : o.isWalk = false) : Keeps n₀ Bs W (W.putObj l o') :=
  ⟨belowK_b hn W l o o' hl h h1 h2, World.putObj_heap_other (by omega)⟩
end Go.Proofs.Ytdfnmlcpimiboaa.pg
/- What happens before what, as plain mathematics: the closure of a relation, counts along chains, clocks. -/
namespace Go.Proofs.Ytdfnmlcpimiboaa.pg
set_option linter.unusedVariables false
/-- How many numbers below n there are of which p holds. -/
def cnt (p : Nat → Bool) : Nat → Nat
  | 0 => 0
  | n + 1 => cnt p n + (if p n then 1 else 0)
theorem cnt_le (p : Nat → Bool) : ∀ n, cnt p n ≤ n
  | 0 => Nat.le_refl _
  | n + 1 => by have := cnt_le p n; unfold cnt; split <;> omega
theorem cnt_mono {p q : Nat → Bool} : ∀ {n : Nat}, (∀ k, k < n → p k = true → q k = true) → cnt p n ≤ cnt q n
  | 0, _ => Nat.le_refl _
  | n + 1, h => by
    have h1 := cnt_mono (p := p) (q := q) (n := n) fun k hk => h k (by omega)
    have h2 := h n (by omega)
    unfold cnt
    by_cases hp : p n = true
    · rw [if_pos hp, if_pos (h2 hp)]; omega
    · rw [if_neg hp]; omega
theorem cnt_congr {p q : Nat → Bool} {n : Nat} (h : ∀ k, k < n → (p k = true ↔ q k = true)) : cnt p n = cnt q n :=
  Nat.le_antisymm (cnt_mono fun k hk => (h k hk).mp) (cnt_mono fun k hk => (h k hk).mpr)
theorem cnt_lt {p q : Nat → Bool} : ∀ {n m : Nat}, (∀ k, k < n → p k = true → q k = true) → m < n → q m = true → p m = false → cnt p n < cnt q n
  | 0, m, _, hm, _, _ => by omega
  | n + 1, m, h, hm, hq, hp => by
    unfold cnt
    by_cases e : m = n
    · subst e
      have h1 := cnt_mono (p := p) (q := q) (n := m) fun k hk => h k (by omega)
      rw [if_pos hq, if_neg (by rw [hp]; exact Bool.false_ne_true)]
      omega
    · have h1 := cnt_lt (p := p) (q := q) (n := n) (m := m) (fun k hk => h k (by omega)) (by omega) hq hp
      have h2 := h n (by omega)
      by_cases hp2 : p n = true
      · rw [if_pos hp2, if_pos (h2 hp2)]; omega
      · rw [if_neg hp2]; omega
theorem cnt_cut {p : Nat → Bool} {m : Nat} : ∀ {n : Nat}, m ≤ n → (∀ k, m ≤ k → k < n → p k = false) → cnt p n = cnt p m
  | 0, h, _ => by have : m = 0 := by omega
                  subst this; rfl
  | n + 1, h, hf => by
    by_cases e : m = n + 1
    · rw [e]
    · have h1 := cnt_cut (p := p) (m := m) (n := n) (by omega) fun k h1 h2 => hf k h1 (by omega)
      conv => lhs; unfold cnt
      rw [h1, if_neg (by rw [hf n (by omega) (by omega)]; exact Bool.false_ne_true)]
      rfl
/-- The closure of a relation that goes forward. -/
inductive HB (d : Nat → Nat → Bool) : Nat → Nat → Prop
  | one {i j : Nat} : i < j → d i j = true → HB d i j
  | then {i k j : Nat} : HB d i k → HB d k j → HB d i j
theorem HB.lt {d : Nat → Nat → Bool} {i j : Nat} (h : HB d i j) : i < j := by
  induction h with
  | one h _ => exact h
  | «then» _ _ h1 h2 => omega
theorem HB.last {d : Nat → Nat → Bool} {i j : Nat} (h : HB d i j) : ∃ m, m < j ∧ d m j = true ∧ (i = m ∨ HB d i m) := by
  induction h with
  | one h1 h2 => exact ⟨_, h1, h2, .inl rfl⟩
  | «then» a _ _ ih =>
    obtain ⟨m, h1, h2, h3⟩ := ih
    refine ⟨m, h1, h2, .inr ?_⟩
    rcases h3 with rfl | h3
    · exact a
    · exact .then a h3
theorem HB.of_last {d : Nat → Nat → Bool} {i m j : Nat} (h1 : m < j) (h2 : d m j = true) (h3 : i = m ∨ HB d i m) : HB d i j := by
  rcases h3 with rfl | h3
  · exact .one h1 h2
  · exact .then h3 (.one h1 h2)
/-- B tells what happens before what. -/
def Tells (d : Nat → Nat → Bool) (B : Nat → Nat → Bool) : Prop := ∀ i j, B i j = true ↔ HB d i j
theorem tells_some (d : Nat → Nat → Bool) : ∃ B, Tells d B :=
  ⟨fun i j => @decide (HB d i j) (Classical.propDecidable _), fun i j => by simp⟩
/-- What happens before j by way of one of the places from m on. -/
def sB (d B : Nat → Nat → Bool) (j m k : Nat) : Bool := (List.range j).any fun i => decide (m ≤ i) && d i j && (k == i || B k i)
theorem sB_iff {d B : Nat → Nat → Bool} (hB : Tells d B) (j m k : Nat) : sB d B j m k = true ↔ ∃ i, m ≤ i ∧ i < j ∧ d i j = true ∧ (k = i ∨ HB d k i) := by
  unfold sB
  rw [List.any_eq_true]
  constructor
  · rintro ⟨i, hi, h⟩
    rw [List.mem_range] at hi
    simp only [Bool.and_eq_true, decide_eq_true_eq, Bool.or_eq_true, beq_iff_eq, hB k i] at h
    exact ⟨i, h.1.1, hi, h.1.2, h.2⟩
  · rintro ⟨i, h1, h2, h3, h4⟩
    refine ⟨i, List.mem_range.mpr h2, ?_⟩
    simp only [Bool.and_eq_true, decide_eq_true_eq, Bool.or_eq_true, beq_iff_eq, hB k i]
    exact ⟨⟨h1, h3⟩, h4⟩
section
variable {d B : Nat → Nat → Bool} (hB : Tells d B)
include hB
theorem sB_top (j k : Nat) : sB d B j j k = false := by
  rw [Bool.eq_false_iff]
  intro h
  obtain ⟨i, h1, h2, _⟩ := (sB_iff hB j j k).mp h
  omega
theorem sB_zero (j k : Nat) : sB d B j 0 k = B k j := by
  rw [Bool.eq_iff_iff, sB_iff hB, hB k j]
  constructor
  · rintro ⟨i, _, h1, h2, h3⟩
    exact HB.of_last h1 h2 h3
  · intro h
    obtain ⟨m, h1, h2, h3⟩ := h.last
    exact ⟨m, by omega, h1, h2, h3⟩
theorem sB_lt {j m k : Nat} (h : sB d B j m k = true) : k < j := by
  obtain ⟨i, _, h2, _, h4⟩ := (sB_iff hB j m k).mp h
  rcases h4 with rfl | h4
  · exact h2
  · have := h4.lt; omega
theorem sB_down {j m k k' : Nat} (h : sB d B j m k = true) (hk : HB d k' k) : sB d B j m k' = true := by
  obtain ⟨i, h1, h2, h3, h4⟩ := (sB_iff hB j m k).mp h
  refine (sB_iff hB j m k').mpr ⟨i, h1, h2, h3, .inr ?_⟩
  rcases h4 with rfl | h4
  · exact hk
  · exact .then hk h4
/-- A place on the way already, or one that j does not depend on, brings nothing. -/
theorem sB_keep {j i : Nat} (h : sB d B j (i + 1) i = true ∨ d i j = false) (k : Nat) : sB d B j i k = sB d B j (i + 1) k := by
  rw [Bool.eq_iff_iff]
  constructor
  · intro q
    obtain ⟨i', h1, h2, h3, h4⟩ := (sB_iff hB j i k).mp q
    by_cases e : i' = i
    · subst e
      rcases h with h | h
      · rcases h4 with rfl | h4
        · exact h
        · exact sB_down hB h h4
      · rw [h] at h3; cases h3
    · exact (sB_iff hB j (i + 1) k).mpr ⟨i', by omega, h2, h3, h4⟩
  · intro q
    obtain ⟨i', h1, h2, h3, h4⟩ := (sB_iff hB j (i + 1) k).mp q
    exact (sB_iff hB j i k).mpr ⟨i', by omega, h2, h3, h4⟩
/-- Any other one brings itself and its past. -/
theorem sB_more {j i : Nat} (hi : i < j) (h : d i j = true) (k : Nat) : sB d B j i k = (sB d B j (i + 1) k || (k == i || B k i)) := by
  rw [Bool.eq_iff_iff, Bool.or_eq_true, Bool.or_eq_true, beq_iff_eq, hB k i]
  constructor
  · intro q
    obtain ⟨i', h1, h2, h3, h4⟩ := (sB_iff hB j i k).mp q
    by_cases e : i' = i
    · subst e; exact .inr h4
    · exact .inl ((sB_iff hB j (i + 1) k).mpr ⟨i', by omega, h2, h3, h4⟩)
  · rintro (q | q)
    · obtain ⟨i', h1, h2, h3, h4⟩ := (sB_iff hB j (i + 1) k).mp q
      exact (sB_iff hB j i k).mpr ⟨i', by omega, h2, h3, h4⟩
    · exact (sB_iff hB j i k).mpr ⟨i, Nat.le_refl _, hi, h, q⟩
/-- An edge: before, with nothing between. -/
theorem edge_iff {i j : Nat} (hi : i < j) : (HB d i j ∧ ∀ k, ¬ (HB d i k ∧ HB d k j)) ↔ (d i j = true ∧ sB d B j (i + 1) i = false) := by
  constructor
  · rintro ⟨h1, h2⟩
    have hd : d i j = true := by
      obtain ⟨m, q1, q2, q3⟩ := h1.last
      rcases q3 with rfl | q3
      · exact q2
      · exact absurd ⟨q3, .one q1 q2⟩ (h2 m)
    refine ⟨hd, ?_⟩
    rw [Bool.eq_false_iff]
    intro q
    obtain ⟨i', q1, q2, q3, q4⟩ := (sB_iff hB j (i + 1) i).mp q
    rcases q4 with rfl | q4
    · omega
    · exact h2 i' ⟨q4, .one q2 q3⟩
  · rintro ⟨h1, h2⟩
    refine ⟨.one hi h1, fun k hk => ?_⟩
    rw [Bool.eq_false_iff] at h2
    refine h2 ((sB_iff hB j (i + 1) i).mpr ?_)
    obtain ⟨m, q1, q2, q3⟩ := hk.2.last
    have hlt := hk.1.lt
    rcases q3 with rfl | q3
    · exact ⟨k, by omega, q1, q2, .inr hk.1⟩
    · exact ⟨m, by have := q3.lt; omega, q1, q2, .inr (.then hk.1 q3)⟩
end
/-- Closed along the events of each goroutine. -/
def Chn (g : Nat → Nat) (T : Nat → Bool) : Prop := ∀ k k', T k = true → k' < k → g k' = g k → T k' = true
theorem chn_iff {g : Nat → Nat} {T : Nat → Bool} {n i : Nat} (hT : Chn g T) (hn : ∀ k, T k = true → k < n) (hi : i < n) :
    cnt (fun k => g k == g i && decide (k ≤ i)) n ≤ cnt (fun k => g k == g i && T k) n ↔ T i = true := by
  constructor
  · intro h
    apply Classical.byContradiction
    intro q
    have : cnt (fun k => g k == g i && T k) n < cnt (fun k => g k == g i && decide (k ≤ i)) n := by
      refine cnt_lt (m := i) (fun k hk hp => ?_) hi (by simp) (by simp [q])
      simp only [Bool.and_eq_true, beq_iff_eq, decide_eq_true_eq] at hp ⊢
      refine ⟨hp.1, ?_⟩
      apply Classical.byContradiction
      intro hki
      exact q (hT k i hp.2 (by omega) hp.1.symm)
    omega
  · intro h
    refine cnt_mono fun k hk hp => ?_
    simp only [Bool.and_eq_true, beq_iff_eq, decide_eq_true_eq] at hp ⊢
    refine ⟨hp.1, ?_⟩
    by_cases e : k = i
    · rw [e]; exact h
    · exact hT i k h (by omega) hp.1
theorem chn_max {g : Nat → Nat} {T U : Nat → Bool} (hT : Chn g T) (hU : Chn g U) (n a : Nat) :
    cnt (fun k => g k == a && (T k || U k)) n = max (cnt (fun k => g k == a && T k) n) (cnt (fun k => g k == a && U k) n) := by
  have key : (∀ k, g k = a → T k = true → U k = true) ∨ (∀ k, g k = a → U k = true → T k = true) := by
    apply Classical.byContradiction
    intro q
    rw [not_or] at q
    obtain ⟨q1, q2⟩ := q
    apply q1
    intro k hk h
    apply Classical.byContradiction
    intro hu
    apply q2
    intro m hm h2
    by_cases e : m < k
    · exact hT k m h e (hm.trans hk.symm)
    · by_cases e2 : m = k
      · rw [e2]; exact h
      · exact absurd (hU m k h2 (by omega) (hk.trans hm.symm)) hu
  rcases key with h | h
  · have e1 : cnt (fun k => g k == a && (T k || U k)) n = cnt (fun k => g k == a && U k) n := cnt_congr fun k _ => by
      simp only [Bool.and_eq_true, beq_iff_eq, Bool.or_eq_true]
      exact ⟨fun ⟨x, y⟩ => ⟨x, y.elim (h k x) id⟩, fun ⟨x, y⟩ => ⟨x, .inr y⟩⟩
    have e2 : cnt (fun k => g k == a && T k) n ≤ cnt (fun k => g k == a && U k) n := cnt_mono fun k _ hp => by
      simp only [Bool.and_eq_true, beq_iff_eq] at hp ⊢
      exact ⟨hp.1, h k hp.1 hp.2⟩
    rw [e1, Nat.max_def]; split <;> omega
  · have e1 : cnt (fun k => g k == a && (T k || U k)) n = cnt (fun k => g k == a && T k) n := cnt_congr fun k _ => by
      simp only [Bool.and_eq_true, beq_iff_eq, Bool.or_eq_true]
      exact ⟨fun ⟨x, y⟩ => ⟨x, y.elim id (h k x)⟩, fun ⟨x, y⟩ => ⟨x, .inl y⟩⟩
    have e2 : cnt (fun k => g k == a && U k) n ≤ cnt (fun k => g k == a && T k) n := cnt_mono fun k _ hp => by
      simp only [Bool.and_eq_true, beq_iff_eq] at hp ⊢
      exact ⟨hp.1, h k hp.1 hp.2⟩
    rw [e1, Nat.max_def]; split <;> omega
/-- The clock of j at goroutine a. -/
def ck (B : Nat → Nat → Bool) (g : Nat → Nat) (j a : Nat) : Nat := cnt (fun k => g k == a && (k == j || B k j)) (j + 1)
/-- Events of one goroutine, of the first n, depend on each other. -/
def Ord (d : Nat → Nat → Bool) (g : Nat → Nat) (n : Nat) : Prop := ∀ i j, i < j → j < n → g i = g j → d i j = true
section
variable {d B : Nat → Nat → Bool} (hB : Tells d B) {g : Nat → Nat} {n : Nat} (ho : Ord d g n)
include hB
theorem past_lt {j k : Nat} (h : (k == j || B k j) = true) : k ≤ j := by
  rw [Bool.or_eq_true, beq_iff_eq, hB k j] at h
  rcases h with h | h
  · omega
  · have := h.lt; omega
theorem ckn_at {j a N : Nat} (h : j < N) : ck B g j a = cnt (fun k => g k == a && (k == j || B k j)) N := by
  unfold ck
  rw [cnt_cut (m := j + 1) (n := N) (by omega)]
  intro k h1 h2
  rw [Bool.eq_false_iff]
  intro q
  rw [Bool.and_eq_true] at q
  have := past_lt hB q.2
  omega
theorem keep_eq {i j : Nat} (h : sB d B j (i + 1) i = true ∨ d i j = false) (a : Nat) : cnt (fun k => g k == a && sB d B j i k) j = cnt (fun k => g k == a && sB d B j (i + 1) k) j :=
  cnt_congr fun k _ => by rw [sB_keep hB h]
theorem tick_eq (j a : Nat) : ck B g j a = cnt (fun k => g k == a && sB d B j 0 k) j + (if a = g j then 1 else 0) := by
  unfold ck
  conv => lhs; unfold cnt
  have h1 : cnt (fun k => g k == a && (k == j || B k j)) j = cnt (fun k => g k == a && sB d B j 0 k) j := cnt_congr fun k hk => by
    rw [sB_zero hB]
    have : (k == j) = false := by simp; omega
    rw [this, Bool.false_or]
  rw [h1]
  by_cases e : a = g j
  · subst e; simp
  · have : (g j == a) = false := by simp; exact fun q => e q.symm
    simp [e, this]
theorem zero_eq (j a : Nat) : cnt (fun k => g k == a && sB d B j j k) j = 0 := by
  rw [cnt_cut (m := 0) (n := j) (Nat.zero_le _) fun k _ _ => by rw [sB_top hB, Bool.and_false]]
  rfl
include ho
theorem past_chn {j : Nat} (hj : j < n) : Chn g fun k => k == j || B k j := by
  intro k k' h hk hg
  have hkj := past_lt hB h
  rw [Bool.or_eq_true, beq_iff_eq, hB k j] at h
  rw [Bool.or_eq_true, beq_iff_eq, hB k' j]
  right
  have h1 : HB d k' k := .one hk (ho k' k hk (by omega) hg)
  rcases h with rfl | h
  · exact h1
  · exact .then h1 h
theorem sB_chn {j m : Nat} (hj : j < n) : Chn g (sB d B j m) := by
  intro k k' h hk hg
  have := sB_lt hB h
  exact sB_down hB h (.one hk (ho k' k hk (by omega) hg))
theorem ck_own {i N : Nat} (hi : i < n) (h : i < N) : ck B g i (g i) = cnt (fun k => g k == g i && decide (k ≤ i)) N := by
  rw [ckn_at hB h]
  refine cnt_congr fun k hk => ?_
  simp only [Bool.and_eq_true, beq_iff_eq, decide_eq_true_eq]
  constructor
  · rintro ⟨h1, h2⟩; exact ⟨h1, past_lt hB h2⟩
  · rintro ⟨h1, h2⟩
    refine ⟨h1, ?_⟩
    rw [Bool.or_eq_true, beq_iff_eq, hB k i]
    by_cases e : k = i
    · exact .inl e
    · exact .inr (.one (by omega) (ho k i (by omega) hi h1))
/-- The number of i at its own goroutine tells whether i is on the way already. -/
theorem test_iff {i j m : Nat} (hij : i < j) (hj : j < n) : ck B g i (g i) ≤ cnt (fun k => g k == g i && sB d B j m k) j ↔ sB d B j m i = true := by
  rw [ck_own hB ho (by omega) hij]
  exact chn_iff (sB_chn hB ho hj) (fun k h => sB_lt hB h) hij
theorem join_eq {i j : Nat} (hij : i < j) (hj : j < n) (hd : d i j = true) (a : Nat) : cnt (fun k => g k == a && sB d B j i k) j = max (cnt (fun k => g k == a && sB d B j (i + 1) k) j) (ck B g i a) := by
  rw [ckn_at hB hij, ← chn_max (sB_chn hB ho hj) (past_chn hB ho (by omega))]
  refine cnt_congr fun k _ => ?_
  rw [sB_more hB hij hd]
/-- Clocks tell what happens before what. -/
theorem before_iff {i j : Nat} (hij : i < j) (hj : j < n) : ck B g i (g i) ≤ ck B g j (g i) ↔ B i j = true := by
  rw [ck_own hB ho (by omega) (show i < j + 1 by omega), ckn_at hB (show j < j + 1 by omega)]
  rw [chn_iff (past_chn hB ho hj) (fun k h => by have := past_lt hB h; omega) (by omega)]
  have : (i == j) = false := by simp; omega
  rw [this, Bool.false_or]
/-- A clock that is nowhere above: so is what happens before. -/
theorem under_iff {i j : Nat} (hij : i < j) (hj : j < n) : (∀ a, ck B g i a ≤ ck B g j a) ↔ B i j = true := by
  constructor
  · intro h; exact (before_iff hB ho hij hj).mp (h _)
  · intro h a
    rw [ckn_at hB (show i < j + 1 by omega), ckn_at hB (show j < j + 1 by omega)]
    refine cnt_mono fun k _ hp => ?_
    simp only [Bool.and_eq_true, Bool.or_eq_true, beq_iff_eq, hB k i, hB k j] at hp ⊢
    rw [hB i j] at h
    refine ⟨hp.1, .inr ?_⟩
    rcases hp.2 with rfl | q
    · exact h
    · exact .then q h
end
end Go.Proofs.Ytdfnmlcpimiboaa.pg
/- Clocks as plain data, and where they lie. -/
namespace Go.Proofs.Ytdfnmlcpimiboaa.pg
open Go.ChangeShapes Go.WideShapes Go.ChangeAt Go.RowKit
set_option linter.unusedVariables false
set_option linter.unusedSimpArgs false
set_option maxRecDepth 100000
/-- A clock. -/
structure Ck where
  c0 : Int
  c1 : Int
  c2 : Int
  c3 : Int
  c4 : Int
  c5 : Int
def Ck.cells (x : Ck) : List Value := [.int .i64 x.c0, .int .i64 x.c1, .int .i64 x.c2, .int .i64 x.c3, .int .i64 x.c4, .int .i64 x.c5]
abbrev Ck.val (x : Ck) : Value := .agg #[.int .i64 x.c0, .int .i64 x.c1, .int .i64 x.c2, .int .i64 x.c3, .int .i64 x.c4, .int .i64 x.c5]
def Ck.list (x : Ck) : List Int := [x.c0, x.c1, x.c2, x.c3, x.c4, x.c5]
def Ck.wf (x : Ck) : Prop := I64 x.c0 ∧ I64 x.c1 ∧ I64 x.c2 ∧ I64 x.c3 ∧ I64 x.c4 ∧ I64 x.c5
def BoxK (w : World) (B : Nat) (x : Ck) : Prop := w.cell? ⟨B, 0, none⟩ = some (.int .i64 x.c0) ∧ w.cell? ⟨B, 1, none⟩ = some (.int .i64 x.c1) ∧ w.cell? ⟨B, 2, none⟩ = some (.int .i64 x.c2) ∧ w.cell? ⟨B, 3, none⟩ = some (.int .i64 x.c3) ∧ w.cell? ⟨B, 4, none⟩ = some (.int .i64 x.c4) ∧ w.cell? ⟨B, 5, none⟩ = some (.int .i64 x.c5)
theorem BoxK.later {w w' : World} {B : Nat} {x : Ck} (h : BoxK w B x) (hb : Below w.heap.size w w') : BoxK w' B x := ⟨cell_later hb h.1, cell_later hb h.2.1, cell_later hb h.2.2.1, cell_later hb h.2.2.2.1, cell_later hb h.2.2.2.2.1, cell_later hb h.2.2.2.2.2⟩
/-- A clock is right. -/
def okC (n : Int) : Prop := 0 ≤ n ∧ n ≤ 1073741824
def Ck.ok (x : Ck) : Prop := ∀ n ∈ x.list, okC n
theorem Ck.ok_iff (x : Ck) : x.ok ↔ okC x.c0 ∧ okC x.c1 ∧ okC x.c2 ∧ okC x.c3 ∧ okC x.c4 ∧ okC x.c5 := by
  unfold Ck.ok Ck.list
  simp
theorem Ck.list_len (x : Ck) : x.list.length = 6 := rfl
section
variable {H : Type} {enc : TypeId × Value → H} {w : World} {base : Nat} {spare : Nat → Bool} {held : Bool}
theorem len6 {α : Type} {l : List α} (h : l.length = 6) : ∃ a b c d e f, l = [a, b, c, d, e, f] := by
  match l, h with
  | [a, b, c, d, e, f], _ => exact ⟨a, b, c, d, e, f, rfl⟩
end
def eqK (x y : Ck) : Bool := x.c0 == y.c0 && x.c1 == y.c1 && x.c2 == y.c2 && x.c3 == y.c3 && x.c4 == y.c4 && x.c5 == y.c5
theorem eqK_iff (x y : Ck) : eqK x y = true ↔ x = y := by
  cases x; cases y; simp [eqK, Bool.and_eq_true, beq_iff_eq, and_assoc]
end Go.Proofs.Ytdfnmlcpimiboaa.pg
