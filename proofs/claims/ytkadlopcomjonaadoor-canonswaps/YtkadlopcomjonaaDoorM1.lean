/- The text of a trace, as bytes: which trace it is of can be told from it. -/
import Derived.Lib.ItoaNum
import Derived.WalkKit
namespace Go.Proofs.YtkadlopcomjonaaDoor.pg
set_option linter.unusedVariables false
/-- A sign of a number. -/
def isN (b : UInt8) : Prop := b.toNat = 45 ∨ 48 ≤ b.toNat ∧ b.toNat ≤ 57
theorem cut_num {c c' : UInt8} {r r' : List UInt8} (hc : ¬ isN c) (hc' : ¬ isN c') : ∀ {u u' : List UInt8}, (∀ b ∈ u, isN b) → (∀ b ∈ u', isN b) → u ++ c :: r = u' ++ c' :: r' → u = u' ∧ c = c' ∧ r = r'
  | [], [], _, _, e => by
    simp only [List.nil_append, List.cons.injEq] at e
    exact ⟨rfl, e⟩
  | [], b :: u', _, h', e => by
    simp only [List.nil_append, List.cons_append, List.cons.injEq] at e
    exact absurd (e.1 ▸ h' b (by simp)) hc
  | a :: u, [], h, _, e => by
    simp only [List.nil_append, List.cons_append, List.cons.injEq] at e
    exact absurd (e.1 ▸ h a (by simp)) hc'
  | a :: u, b :: u', h, h', e => by
    simp only [List.cons_append, List.cons.injEq] at e
    obtain ⟨i1, i2⟩ := cut_num hc hc' (fun b hb => h b (by simp [hb])) (fun b hb => h' b (by simp [hb])) e.2
    exact ⟨by rw [e.1, i1], i2⟩
/-- The number that digits say. -/
def dval (l : List UInt8) : Nat := l.foldl (fun a b => a * 10 + (b.toNat - 48)) 0
theorem dval_snoc (l : List UInt8) (b : UInt8) : dval (l ++ [b]) = dval l * 10 + (b.toNat - 48) := by
  unfold dval
  rw [List.foldl_append]
  rfl
theorem dig_nat {u : Nat} (h : u < 10) : (UInt8.ofNat (48 + u)).toNat = 48 + u := by
  rw [UInt8.toNat_ofNat']
  omega
theorem dec_all : ∀ (u : Nat), dval (Lib.decDigits u) = u ∧ ∀ b ∈ Lib.decDigits u, 48 ≤ b.toNat ∧ b.toNat ≤ 57 := by
  intro u
  induction u using Nat.strongRecOn with
  | ind u ih =>
    rw [Lib.decDigits]
    by_cases c : u < 10
    · rw [dif_pos c]
      refine ⟨?_, fun b hb => ?_⟩
      · show 0 * 10 + _ = _
        rw [dig_nat c]; omega
      · rw [List.mem_singleton] at hb
        rw [hb, dig_nat c]; omega
    · rw [dif_neg c]
      obtain ⟨i1, i2⟩ := ih (u / 10) (by omega)
      have hd := dig_nat (u := u % 10) (by omega)
      refine ⟨?_, fun b hb => ?_⟩
      · rw [dval_snoc, i1, hd]; omega
      · rw [List.mem_append, List.mem_singleton] at hb
        rcases hb with hb | hb
        · exact i2 b hb
        · rw [hb, hd]; omega
theorem itoa_N (n : Int) : ∀ b ∈ Lib.itoa n, isN b := by
  intro b hb
  unfold Lib.itoa at hb
  split at hb
  · rcases List.mem_cons.mp hb with q | q
    · rw [q]; left; decide
    · exact .inr ((dec_all _).2 b q)
  · exact .inr ((dec_all _).2 b hb)
theorem dec_inj {u v : Nat} (h : Lib.decDigits u = Lib.decDigits v) : u = v := by
  rw [← (dec_all u).1, ← (dec_all v).1, h]
theorem dec_minus (u : Nat) (r : List UInt8) : Lib.decDigits u ≠ 45 :: r := fun h => by
  have := (dec_all u).2 45 (by rw [h]; simp)
  have e : (45 : UInt8).toNat = 45 := rfl
  omega
theorem itoa_inj {m n : Int} (h : Lib.itoa m = Lib.itoa n) : m = n := by
  unfold Lib.itoa at h
  by_cases c : m < 0
  · rw [if_pos c] at h
    by_cases c2 : n < 0
    · rw [if_pos c2] at h
      have := dec_inj (List.cons.inj h).2
      omega
    · rw [if_neg c2] at h
      exact absurd h.symm (dec_minus _ _)
  · rw [if_neg c] at h
    by_cases c2 : n < 0
    · rw [if_pos c2] at h
      exact absurd h (dec_minus _ _)
    · rw [if_neg c2] at h
      have := dec_inj h
      omega
/-- Numbers, a comma between two. -/
def numsB : List Int → List UInt8
  | [] => []
  | [n] => Lib.itoa n
  | n :: m :: r => Lib.itoa n ++ 44 :: numsB (m :: r)
theorem numsB_snoc : ∀ (l : List Int) (n : Int), l ≠ [] → numsB (l ++ [n]) = numsB l ++ 44 :: Lib.itoa n
  | [], n, h => absurd rfl h
  | [a], n, _ => rfl
  | a :: b :: r, n, _ => by
    have ih := numsB_snoc (b :: r) n (by simp)
    show Lib.itoa a ++ 44 :: numsB (b :: r ++ [n]) = (Lib.itoa a ++ 44 :: numsB (b :: r)) ++ 44 :: Lib.itoa n
    rw [ih]
    simp
/-- What ends a list of numbers. -/
def isE (c : UInt8) : Prop := c = 58 ∨ c = 59
theorem isE.not {c : UInt8} (h : isE c) : ¬ isN c ∧ c ≠ 44 := by
  rcases h with rfl | rfl <;> (refine ⟨fun q => ?_, by decide⟩; unfold isN at q; revert q; decide)
theorem not44 : ¬ isN 44 := by unfold isN; decide
theorem nums_inj {c c' : UInt8} {r r' : List UInt8} (hc : isE c) (hc' : isE c') : ∀ {l l' : List Int}, l.length = l'.length → numsB l ++ c :: r = numsB l' ++ c' :: r' → l = l' ∧ c = c' ∧ r = r'
  | [], [], _, e => by
    simp only [numsB, List.nil_append, List.cons.injEq] at e
    exact ⟨rfl, e⟩
  | [], _ :: _, h, _ => by simp at h
  | _ :: _, [], h, _ => by simp at h
  | [n], [m], _, e => by
    obtain ⟨h1, h2, h3⟩ := cut_num hc.not.1 hc'.not.1 (itoa_N n) (itoa_N m) e
    exact ⟨by rw [itoa_inj h1], h2, h3⟩
  | [n], m :: m2 :: s, h, _ => by simp at h
  | n :: n2 :: s, [m], h, _ => by simp at h
  | n :: n2 :: s, m :: m2 :: s', h, e => by
    have e' : Lib.itoa n ++ 44 :: (numsB (n2 :: s) ++ c :: r) = Lib.itoa m ++ 44 :: (numsB (m2 :: s') ++ c' :: r') := by
      simpa [numsB] using e
    obtain ⟨h1, _, h3⟩ := cut_num not44 not44 (itoa_N n) (itoa_N m) e'
    obtain ⟨i1, i2, i3⟩ := nums_inj hc hc' (l := n2 :: s) (l' := m2 :: s') (by simpa using h) h3
    exact ⟨by rw [itoa_inj h1, i1], i2, i3⟩
/-- What an event touches, and its end. -/
def tchB (as : List (List Int)) : List UInt8 := as.flatMap (fun a => 58 :: numsB a) ++ [59]
theorem tchB_cons (a : List Int) (as : List (List Int)) : tchB (a :: as) = 58 :: (numsB a ++ tchB as) := by simp [tchB]
theorem tch_head (as : List (List Int)) : ∃ c s, tchB as = c :: s ∧ isE c := by
  cases as with
  | nil => exact ⟨59, [], rfl, .inr rfl⟩
  | cons a as => exact ⟨58, _, tchB_cons a as, .inl rfl⟩
theorem tch_inj {r r' : List UInt8} : ∀ {as bs : List (List Int)}, (∀ a ∈ as, a.length = 3) → (∀ a ∈ bs, a.length = 3) → tchB as ++ r = tchB bs ++ r' → as = bs ∧ r = r'
  | [], [], _, _, e => ⟨rfl, by simpa [tchB] using e⟩
  | [], b :: bs, _, _, e => by
    rw [tchB_cons] at e
    simp [tchB] at e
  | a :: as, [], _, _, e => by
    rw [tchB_cons] at e
    simp [tchB] at e
  | a :: as, b :: bs, h, h', e => by
    rw [tchB_cons, tchB_cons] at e
    simp only [List.cons_append, List.cons.injEq, true_and, List.append_assoc] at e
    obtain ⟨c, s, e1, hc⟩ := tch_head as
    obtain ⟨c', s', e2, hc'⟩ := tch_head bs
    have e3 := e
    rw [e1, e2, List.cons_append, List.cons_append] at e3
    obtain ⟨i1, i2, i3⟩ := nums_inj hc hc' (by rw [h a (by simp), h' b (by simp)]) e3
    have e4 : tchB as ++ r = tchB bs ++ r' := by rw [e1, e2, List.cons_append, List.cons_append, i2, i3]
    obtain ⟨j1, j2⟩ := tch_inj (fun a ha => h a (by simp [ha])) (fun a ha => h' a (by simp [ha])) e4
    exact ⟨by rw [i1, j1], j2⟩
/-- An event's text: seven numbers, and what it touches. -/
def lineB (x : List Int × List (List Int)) : List UInt8 := numsB x.1 ++ tchB x.2
def Good7 (x : List Int × List (List Int)) : Prop := x.1.length = 7 ∧ ∀ a ∈ x.2, a.length = 3
theorem line_inj {x y : List Int × List (List Int)} {r r' : List UInt8} (hx : Good7 x) (hy : Good7 y) (e : lineB x ++ r = lineB y ++ r') : x = y ∧ r = r' := by
  unfold lineB at e
  rw [List.append_assoc, List.append_assoc] at e
  obtain ⟨c, s, e1, hc⟩ := tch_head x.2
  obtain ⟨c', s', e2, hc'⟩ := tch_head y.2
  have e3 := e
  rw [e1, e2, List.cons_append, List.cons_append] at e3
  obtain ⟨i1, i2, i3⟩ := nums_inj hc hc' (by rw [hx.1, hy.1]) e3
  have e4 : tchB x.2 ++ r = tchB y.2 ++ r' := by rw [e1, e2, List.cons_append, List.cons_append, i2, i3]
  obtain ⟨j1, j2⟩ := tch_inj hx.2 hy.2 e4
  exact ⟨Prod.ext i1 j1, j2⟩
theorem line_ne (x : List Int × List (List Int)) : lineB x ≠ [] := by
  obtain ⟨c, s, e1, _⟩ := tch_head x.2
  unfold lineB
  rw [e1]
  simp
def linesB (l : List (List Int × List (List Int))) : List UInt8 := l.flatMap lineB
theorem lines_inj : ∀ {l m : List (List Int × List (List Int))}, (∀ x ∈ l, Good7 x) → (∀ x ∈ m, Good7 x) → linesB l = linesB m → l = m
  | [], [], _, _, _ => rfl
  | [], y :: m, _, _, e => by
    simp only [linesB, List.flatMap_nil, List.flatMap_cons] at e
    exact absurd (List.append_eq_nil_iff.mp e.symm).1 (line_ne y)
  | x :: l, [], _, _, e => by
    simp only [linesB, List.flatMap_nil, List.flatMap_cons] at e
    exact absurd (List.append_eq_nil_iff.mp e).1 (line_ne x)
  | x :: l, y :: m, h, h', e => by
    simp only [linesB, List.flatMap_cons] at e
    obtain ⟨i1, i2⟩ := line_inj (h x (by simp)) (h' y (by simp)) e
    rw [i1, lines_inj (fun z hz => h z (by simp [hz])) (fun z hz => h' z (by simp [hz])) i2]
end Go.Proofs.YtkadlopcomjonaaDoor.pg
/- What happens before what, as plain mathematics: the closure of a relation, counts along chains, clocks. -/
namespace Go.Proofs.YtkadlopcomjonaaDoor.pg
set_option linter.unusedVariables false
/-- How many numbers below n there are of which p holds. -/
def cnt (p : Nat → Bool) : Nat → Nat
  | 0 => 0
  | n + 1 => cnt p n + (if p n then 1 else 0)
theorem cnt_le (p : Nat → Bool) : ∀ n, cnt p n ≤ n
  | 0 => Nat.le_refl _
  | n + 1 => by have := cnt_le p n; unfold cnt; split <;> omega
theorem cnt_mono {p q : Nat → Bool} : ∀ {n : Nat}, (∀ k, k < n → p k = true → q k = true) → cnt p n ≤ cnt q n
  | 0, _ => Nat.le_refl _
  | n + 1, h => by
    have h1 := cnt_mono (p := p) (q := q) (n := n) fun k hk => h k (by omega)
    have h2 := h n (by omega)
    unfold cnt
    by_cases hp : p n = true
    · rw [if_pos hp, if_pos (h2 hp)]; omega
    · rw [if_neg hp]; omega
theorem cnt_congr {p q : Nat → Bool} {n : Nat} (h : ∀ k, k < n → (p k = true ↔ q k = true)) : cnt p n = cnt q n :=
  Nat.le_antisymm (cnt_mono fun k hk => (h k hk).mp) (cnt_mono fun k hk => (h k hk).mpr)
theorem cnt_lt {p q : Nat → Bool} : ∀ {n m : Nat}, (∀ k, k < n → p k = true → q k = true) → m < n → q m = true → p m = false → cnt p n < cnt q n
  | 0, m, _, hm, _, _ => by omega
  | n + 1, m, h, hm, hq, hp => by
    unfold cnt
    by_cases e : m = n
    · subst e
      have h1 := cnt_mono (p := p) (q := q) (n := m) fun k hk => h k (by omega)
      rw [if_pos hq, if_neg (by rw [hp]; exact Bool.false_ne_true)]
      omega
    · have h1 := cnt_lt (p := p) (q := q) (n := n) (m := m) (fun k hk => h k (by omega)) (by omega) hq hp
      have h2 := h n (by omega)
      by_cases hp2 : p n = true
      · rw [if_pos hp2, if_pos (h2 hp2)]; omega
      · rw [if_neg hp2]; omega
theorem cnt_cut {p : Nat → Bool} {m : Nat} : ∀ {n : Nat}, m ≤ n → (∀ k, m ≤ k → k < n → p k = false) → cnt p n = cnt p m
  | 0, h, _ => by have : m = 0 := by omega
                  subst this; rfl
  | n + 1, h, hf => by
    by_cases e : m = n + 1
    · rw [e]
    · have h1 := cnt_cut (p := p) (m := m) (n := n) (by omega) fun k h1 h2 => hf k h1 (by omega)
      conv => lhs; unfold cnt
      rw [h1, if_neg (by rw [hf n (by omega) (by omega)]; exact Bool.false_ne_true)]
      rfl
/-- The closure of a relation that goes forward. -/
inductive HB (d : Nat → Nat → Bool) : Nat → Nat → Prop
  | one {i j : Nat} : i < j → d i j = true → HB d i j
  | then {i k j : Nat} : HB d i k → HB d k j → HB d i j
theorem HB.lt {d : Nat → Nat → Bool} {i j : Nat} (h : HB d i j) : i < j := by
  induction h with
  | one h _ => exact h
  | «then» _ _ h1 h2 => omega
theorem HB.last {d : Nat → Nat → Bool} {i j : Nat} (h : HB d i j) : ∃ m, m < j ∧ d m j = true ∧ (i = m ∨ HB d i m) := by
  induction h with
  | one h1 h2 => exact ⟨_, h1, h2, .inl rfl⟩
  | «then» a _ _ ih =>
    obtain ⟨m, h1, h2, h3⟩ := ih
    refine ⟨m, h1, h2, .inr ?_⟩
    rcases h3 with rfl | h3
    · exact a
    · exact .then a h3
theorem HB.of_last {d : Nat → Nat → Bool} {i m j : Nat} (h1 : m < j) (h2 : d m j = true) (h3 : i = m ∨ HB d i m) : HB d i j := by
  rcases h3 with rfl | h3
  · exact .one h1 h2
  · exact .then h3 (.one h1 h2)
/-- B tells what happens before what. -/
def Tells (d : Nat → Nat → Bool) (B : Nat → Nat → Bool) : Prop := ∀ i j, B i j = true ↔ HB d i j
theorem tells_some (d : Nat → Nat → Bool) : ∃ B, Tells d B :=
  ⟨fun i j => @decide (HB d i j) (Classical.propDecidable _), fun i j => by simp⟩
/-- What happens before j by way of one of the places from m on. -/
def sB (d B : Nat → Nat → Bool) (j m k : Nat) : Bool := (List.range j).any fun i => decide (m ≤ i) && d i j && (k == i || B k i)
theorem sB_iff {d B : Nat → Nat → Bool} (hB : Tells d B) (j m k : Nat) : sB d B j m k = true ↔ ∃ i, m ≤ i ∧ i < j ∧ d i j = true ∧ (k = i ∨ HB d k i) := by
  unfold sB
  rw [List.any_eq_true]
  constructor
  · rintro ⟨i, hi, h⟩
    rw [List.mem_range] at hi
    simp only [Bool.and_eq_true, decide_eq_true_eq, Bool.or_eq_true, beq_iff_eq, hB k i] at h
    exact ⟨i, h.1.1, hi, h.1.2, h.2⟩
  · rintro ⟨i, h1, h2, h3, h4⟩
    refine ⟨i, List.mem_range.mpr h2, ?_⟩
    simp only [Bool.and_eq_true, decide_eq_true_eq, Bool.or_eq_true, beq_iff_eq, hB k i]
    exact ⟨⟨h1, h3⟩, h4⟩
section
variable {d B : Nat → Nat → Bool} (hB : Tells d B)
include hB
theorem sB_top (j k : Nat) : sB d B j j k = false := by
  rw [Bool.eq_false_iff]
  intro h
  obtain ⟨i, h1, h2, _⟩ := (sB_iff hB j j k).mp h
  omega
theorem sB_zero (j k : Nat) : sB d B j 0 k = B k j := by
  rw [Bool.eq_iff_iff, sB_iff hB, hB k j]
  constructor
  · rintro ⟨i, _, h1, h2, h3⟩
    exact HB.of_last h1 h2 h3
  · intro h
    obtain ⟨m, h1, h2, h3⟩ := h.last
    exact ⟨m, by omega, h1, h2, h3⟩
theorem sB_lt {j m k : Nat} (h : sB d B j m k = true) : k < j := by
  obtain ⟨i, _, h2, _, h4⟩ := (sB_iff hB j m k).mp h
  rcases h4 with rfl | h4
  · exact h2
  · have := h4.lt; omega
theorem sB_down {j m k k' : Nat} (h : sB d B j m k = true) (hk : HB d k' k) : sB d B j m k' = true := by
  obtain ⟨i, h1, h2, h3, h4⟩ := (sB_iff hB j m k).mp h
  refine (sB_iff hB j m k').mpr ⟨i, h1, h2, h3, .inr ?_⟩
  rcases h4 with rfl | h4
  · exact hk
  · exact .then hk h4
/-- A place on the way already, or one that j does not depend on, brings nothing. -/
theorem sB_keep {j i : Nat} (h : sB d B j (i + 1) i = true ∨ d i j = false) (k : Nat) : sB d B j i k = sB d B j (i + 1) k := by
  rw [Bool.eq_iff_iff]
  constructor
  · intro q
    obtain ⟨i', h1, h2, h3, h4⟩ := (sB_iff hB j i k).mp q
    by_cases e : i' = i
    · subst e
      rcases h with h | h
      · rcases h4 with rfl | h4
        · exact h
        · exact sB_down hB h h4
      · rw [h] at h3; cases h3
    · exact (sB_iff hB j (i + 1) k).mpr ⟨i', by omega, h2, h3, h4⟩
  · intro q
    obtain ⟨i', h1, h2, h3, h4⟩ := (sB_iff hB j (i + 1) k).mp q
    exact (sB_iff hB j i k).mpr ⟨i', by omega, h2, h3, h4⟩
/-- Any other one brings itself and its past. -/
theorem sB_more {j i : Nat} (hi : i < j) (h : d i j = true) (k : Nat) : sB d B j i k = (sB d B j (i + 1) k || (k == i || B k i)) := by
  rw [Bool.eq_iff_iff, Bool.or_eq_true, Bool.or_eq_true, beq_iff_eq, hB k i]
  constructor
  · intro q
    obtain ⟨i', h1, h2, h3, h4⟩ := (sB_iff hB j i k).mp q
    by_cases e : i' = i
    · subst e; exact .inr h4
    · exact .inl ((sB_iff hB j (i + 1) k).mpr ⟨i', by omega, h2, h3, h4⟩)
  · rintro (q | q)
    · obtain ⟨i', h1, h2, h3, h4⟩ := (sB_iff hB j (i + 1) k).mp q
      exact (sB_iff hB j i k).mpr ⟨i', by omega, h2, h3, h4⟩
    · exact (sB_iff hB j i k).mpr ⟨i, Nat.le_refl _, hi, h, q⟩
/-- An edge: before, with nothing between. -/
theorem edge_iff {i j : Nat} (hi : i < j) : (HB d i j ∧ ∀ k, ¬ (HB d i k ∧ HB d k j)) ↔ (d i j = true ∧ sB d B j (i + 1) i = false) := by
  constructor
  · rintro ⟨h1, h2⟩
    have hd : d i j = true := by
      obtain ⟨m, q1, q2, q3⟩ := h1.last
      rcases q3 with rfl | q3
      · exact q2
      · exact absurd ⟨q3, .one q1 q2⟩ (h2 m)
    refine ⟨hd, ?_⟩
    rw [Bool.eq_false_iff]
    intro q
    obtain ⟨i', q1, q2, q3, q4⟩ := (sB_iff hB j (i + 1) i).mp q
    rcases q4 with rfl | q4
    · omega
    · exact h2 i' ⟨q4, .one q2 q3⟩
  · rintro ⟨h1, h2⟩
    refine ⟨.one hi h1, fun k hk => ?_⟩
    rw [Bool.eq_false_iff] at h2
    refine h2 ((sB_iff hB j (i + 1) i).mpr ?_)
    obtain ⟨m, q1, q2, q3⟩ := hk.2.last
    have hlt := hk.1.lt
    rcases q3 with rfl | q3
    · exact ⟨k, by omega, q1, q2, .inr hk.1⟩
    · exact ⟨m, by have := q3.lt; omega, q1, q2, .inr (.then hk.1 q3)⟩
end
/-- Closed along the events of each goroutine. -/
def Chn (g : Nat → Nat) (T : Nat → Bool) : Prop := ∀ k k', T k = true → k' < k → g k' = g k → T k' = true
theorem chn_iff {g : Nat → Nat} {T : Nat → Bool} {n i : Nat} (hT : Chn g T) (hn : ∀ k, T k = true → k < n) (hi : i < n) :
    cnt (fun k => g k == g i && decide (k ≤ i)) n ≤ cnt (fun k => g k == g i && T k) n ↔ T i = true := by
  constructor
  · intro h
    apply Classical.byContradiction
    intro q
    have : cnt (fun k => g k == g i && T k) n < cnt (fun k => g k == g i && decide (k ≤ i)) n := by
      refine cnt_lt (m := i) (fun k hk hp => ?_) hi (by simp) (by simp [q])
      simp only [Bool.and_eq_true, beq_iff_eq, decide_eq_true_eq] at hp ⊢
      refine ⟨hp.1, ?_⟩
      apply Classical.byContradiction
      intro hki
      exact q (hT k i hp.2 (by omega) hp.1.symm)
    omega
  · intro h
    refine cnt_mono fun k hk hp => ?_
    simp only [Bool.and_eq_true, beq_iff_eq, decide_eq_true_eq] at hp ⊢
    refine ⟨hp.1, ?_⟩
    by_cases e : k = i
    · rw [e]; exact h
    · exact hT i k h (by omega) hp.1
theorem chn_max {g : Nat → Nat} {T U : Nat → Bool} (hT : Chn g T) (hU : Chn g U) (n a : Nat) :
    cnt (fun k => g k == a && (T k || U k)) n = max (cnt (fun k => g k == a && T k) n) (cnt (fun k => g k == a && U k) n) := by
  have key : (∀ k, g k = a → T k = true → U k = true) ∨ (∀ k, g k = a → U k = true → T k = true) := by
    apply Classical.byContradiction
    intro q
    rw [not_or] at q
    obtain ⟨q1, q2⟩ := q
    apply q1
    intro k hk h
    apply Classical.byContradiction
    intro hu
    apply q2
    intro m hm h2
    by_cases e : m < k
    · exact hT k m h e (hm.trans hk.symm)
    · by_cases e2 : m = k
      · rw [e2]; exact h
      · exact absurd (hU m k h2 (by omega) (hk.trans hm.symm)) hu
  rcases key with h | h
  · have e1 : cnt (fun k => g k == a && (T k || U k)) n = cnt (fun k => g k == a && U k) n := cnt_congr fun k _ => by
      simp only [Bool.and_eq_true, beq_iff_eq, Bool.or_eq_true]
      exact ⟨fun ⟨x, y⟩ => ⟨x, y.elim (h k x) id⟩, fun ⟨x, y⟩ => ⟨x, .inr y⟩⟩
    have e2 : cnt (fun k => g k == a && T k) n ≤ cnt (fun k => g k == a && U k) n := cnt_mono fun k _ hp => by
      simp only [Bool.and_eq_true, beq_iff_eq] at hp ⊢
      exact ⟨hp.1, h k hp.1 hp.2⟩
    rw [e1, Nat.max_def]; split <;> omega
  · have e1 : cnt (fun k => g k == a && (T k || U k)) n = cnt (fun k => g k == a && T k) n := cnt_congr fun k _ => by
      simp only [Bool.and_eq_true, beq_iff_eq, Bool.or_eq_true]
      exact ⟨fun ⟨x, y⟩ => ⟨x, y.elim id (h k x)⟩, fun ⟨x, y⟩ => ⟨x, .inl y⟩⟩
    have e2 : cnt (fun k => g k == a && U k) n ≤ cnt (fun k => g k == a && T k) n := cnt_mono fun k _ hp => by
      simp only [Bool.and_eq_true, beq_iff_eq] at hp ⊢
      exact ⟨hp.1, h k hp.1 hp.2⟩
    rw [e1, Nat.max_def]; split <;> omega
/-- The clock of j at goroutine a. -/
def ck (B : Nat → Nat → Bool) (g : Nat → Nat) (j a : Nat) : Nat := cnt (fun k => g k == a && (k == j || B k j)) (j + 1)
/-- Events of one goroutine, of the first n, depend on each other. -/
def Ord (d : Nat → Nat → Bool) (g : Nat → Nat) (n : Nat) : Prop := ∀ i j, i < j → j < n → g i = g j → d i j = true
section
variable {d B : Nat → Nat → Bool} (hB : Tells d B) {g : Nat → Nat} {n : Nat} (ho : Ord d g n)
include hB
theorem past_lt {j k : Nat} (h : (k == j || B k j) = true) : k ≤ j := by
  rw [Bool.or_eq_true, beq_iff_eq, hB k j] at h
  rcases h with h | h
  · omega
  · have := h.lt; omega
theorem ckn_at {j a N : Nat} (h : j < N) : ck B g j a = cnt (fun k => g k == a && (k == j || B k j)) N := by
  unfold ck
  rw [cnt_cut (m := j + 1) (n := N) (by omega)]
  intro k h1 h2
  rw [Bool.eq_false_iff]
  intro q
  rw [Bool.and_eq_true] at q
  have := past_lt hB q.2
  omega
theorem keep_eq {i j : Nat} (h : sB d B j (i + 1) i = true ∨ d i j = false) (a : Nat) : cnt (fun k => g k == a && sB d B j i k) j = cnt (fun k => g k == a && sB d B j (i + 1) k) j :=
  cnt_congr fun k _ => by rw [sB_keep hB h]
theorem tick_eq (j a : Nat) : ck B g j a = cnt (fun k => g k == a && sB d B j 0 k) j + (if a = g j then 1 else 0) := by
  unfold ck
  conv => lhs; unfold cnt
  have h1 : cnt (fun k => g k == a && (k == j || B k j)) j = cnt (fun k => g k == a && sB d B j 0 k) j := cnt_congr fun k hk => by
    rw [sB_zero hB]
    have : (k == j) = false := by simp; omega
    rw [this, Bool.false_or]
  rw [h1]
  by_cases e : a = g j
  · subst e; simp
  · have : (g j == a) = false := by simp; exact fun q => e q.symm
    simp [e, this]
theorem zero_eq (j a : Nat) : cnt (fun k => g k == a && sB d B j j k) j = 0 := by
  rw [cnt_cut (m := 0) (n := j) (Nat.zero_le _) fun k _ _ => by rw [sB_top hB, Bool.and_false]]
  rfl
include ho
theorem past_chn {j : Nat} (hj : j < n) : Chn g fun k => k == j || B k j := by
  intro k k' h hk hg
  have hkj := past_lt hB h
  rw [Bool.or_eq_true, beq_iff_eq, hB k j] at h
  rw [Bool.or_eq_true, beq_iff_eq, hB k' j]
  right
  have h1 : HB d k' k := .one hk (ho k' k hk (by omega) hg)
  rcases h with rfl | h
  · exact h1
  · exact .then h1 h
theorem sB_chn {j m : Nat} (hj : j < n) : Chn g (sB d B j m) := by
  intro k k' h hk hg
  have := sB_lt hB h
  exact sB_down hB h (.one hk (ho k' k hk (by omega) hg))
theorem ck_own {i N : Nat} (hi : i < n) (h : i < N) : ck B g i (g i) = cnt (fun k => g k == g i && decide (k ≤ i)) N := by
  rw [ckn_at hB h]
  refine cnt_congr fun k hk => ?_
  simp only [Bool.and_eq_true, beq_iff_eq, decide_eq_true_eq]
  constructor
  · rintro ⟨h1, h2⟩; exact ⟨h1, past_lt hB h2⟩
  · rintro ⟨h1, h2⟩
    refine ⟨h1, ?_⟩
    rw [Bool.or_eq_true, beq_iff_eq, hB k i]
    by_cases e : k = i
    · exact .inl e
    · exact .inr (.one (by omega) (ho k i (by omega) hi h1))
/-- The number of i at its own goroutine tells whether i is on the way already. -/
theorem test_iff {i j m : Nat} (hij : i < j) (hj : j < n) : ck B g i (g i) ≤ cnt (fun k => g k == g i && sB d B j m k) j ↔ sB d B j m i = true := by
  rw [ck_own hB ho (by omega) hij]
  exact chn_iff (sB_chn hB ho hj) (fun k h => sB_lt hB h) hij
theorem join_eq {i j : Nat} (hij : i < j) (hj : j < n) (hd : d i j = true) (a : Nat) : cnt (fun k => g k == a && sB d B j i k) j = max (cnt (fun k => g k == a && sB d B j (i + 1) k) j) (ck B g i a) := by
  rw [ckn_at hB hij, ← chn_max (sB_chn hB ho hj) (past_chn hB ho (by omega))]
  refine cnt_congr fun k _ => ?_
  rw [sB_more hB hij hd]
/-- Clocks tell what happens before what. -/
theorem before_iff {i j : Nat} (hij : i < j) (hj : j < n) : ck B g i (g i) ≤ ck B g j (g i) ↔ B i j = true := by
  rw [ck_own hB ho (by omega) (show i < j + 1 by omega), ckn_at hB (show j < j + 1 by omega)]
  rw [chn_iff (past_chn hB ho hj) (fun k h => by have := past_lt hB h; omega) (by omega)]
  have : (i == j) = false := by simp; omega
  rw [this, Bool.false_or]
/-- A clock that is nowhere above: so is what happens before. -/
theorem under_iff {i j : Nat} (hij : i < j) (hj : j < n) : (∀ a, ck B g i a ≤ ck B g j a) ↔ B i j = true := by
  constructor
  · intro h; exact (before_iff hB ho hij hj).mp (h _)
  · intro h a
    rw [ckn_at hB (show i < j + 1 by omega), ckn_at hB (show j < j + 1 by omega)]
    refine cnt_mono fun k _ hp => ?_
    simp only [Bool.and_eq_true, Bool.or_eq_true, beq_iff_eq, hB k i, hB k j] at hp ⊢
    rw [hB i j] at h
    refine ⟨hp.1, .inr ?_⟩
    rcases hp.2 with rfl | q
    · exact h
    · exact .then q h
end
end Go.Proofs.YtkadlopcomjonaaDoor.pg
/- Edges make up what happens before what; a swap of two that do not depend on each other leaves it; chains. -/
namespace Go.Proofs.YtkadlopcomjonaaDoor.pg
set_option linter.unusedVariables false
/-- Is there an edge? -/
def edgeB (d B : Nat → Nat → Bool) (i j : Nat) : Bool := decide (i < j) && (d i j && !sB d B j (i + 1) i)
theorem edgeB_iff (d B : Nat → Nat → Bool) (i j : Nat) : edgeB d B i j = true ↔ i < j ∧ d i j = true ∧ sB d B j (i + 1) i = false := by
  unfold edgeB
  simp only [Bool.and_eq_true, decide_eq_true_eq, Bool.not_eq_true']
section
variable {d B : Nat → Nat → Bool} (hB : Tells d B)
include hB
theorem edgeB_is {i j : Nat} : edgeB d B i j = true ↔ (HB d i j ∧ ∀ k, ¬ (HB d i k ∧ HB d k j)) := by
  rw [edgeB_iff]
  constructor
  · rintro ⟨h1, h2⟩
    exact (edge_iff hB h1).mpr h2
  · intro h
    exact ⟨h.1.lt, (edge_iff hB h.1.lt).mp h⟩
theorem edgeB_hb {i j : Nat} (h : edgeB d B i j = true) : HB d i j := ((edgeB_is hB).mp h).1
theorem edge_last_n : ∀ (n i m j : Nat), j - m ≤ n → m < j → d m j = true → (i = m ∨ HB d i m) → ∃ m, edgeB d B m j = true ∧ (i = m ∨ HB d i m)
  | 0, i, m, j, h, h1, _, _ => by omega
  | n + 1, i, m, j, h, h1, h2, h3 => by
    by_cases c : sB d B j (m + 1) m = true
    · obtain ⟨i', q1, q2, q3, q4⟩ := (sB_iff hB j (m + 1) m).mp c
      rcases q4 with q4 | q4
      · omega
      · refine edge_last_n n i i' j (by omega) q2 q3 (.inr ?_)
        rcases h3 with rfl | h3
        · exact q4
        · exact .then h3 q4
    · exact ⟨m, (edgeB_iff d B m j).mpr ⟨h1, h2, by simpa using c⟩, h3⟩
/-- The last step on a way is an edge. -/
theorem edge_last {i j : Nat} (h : HB d i j) : ∃ m, edgeB d B m j = true ∧ (i = m ∨ HB d i m) := by
  obtain ⟨m, h1, h2, h3⟩ := h.last
  exact edge_last_n hB _ i m j (Nat.le_refl _) h1 h2 h3
/-- The first step on a way can be an edge. -/
theorem edge_first_n : ∀ (n i j : Nat), j ≤ n → HB d i j → ∃ m, edgeB d B i m = true ∧ (m = j ∨ HB d m j)
  | 0, i, j, h, q => by have := q.lt; omega
  | n + 1, i, j, h, q => by
    obtain ⟨m, h1, h2⟩ := edge_last hB q
    have hm := edgeB_hb hB h1
    rcases h2 with rfl | h2
    · exact ⟨j, h1, .inl rfl⟩
    · obtain ⟨k, k1, k2⟩ := edge_first_n n i m (by have := hm.lt; omega) h2
      refine ⟨k, k1, .inr ?_⟩
      rcases k2 with rfl | k2
      · exact hm
      · exact .then k2 hm
theorem edge_first {i j : Nat} (h : HB d i j) : ∃ m, edgeB d B i m = true ∧ (m = j ∨ HB d m j) := edge_first_n hB j i j (Nat.le_refl _) h
end
/-- Two neighbours changed about. -/
def swp (i k : Nat) : Nat := if k = i then i + 1 else if k = i + 1 then i else k
theorem swp_swp (i k : Nat) : swp i (swp i k) = k := by unfold swp; split <;> split <;> (try split) <;> omega
theorem swp_lt {i k n : Nat} (h : i + 1 < n) (hk : k < n) : swp i k < n := by unfold swp; split <;> (try split) <;> omega
theorem swp_inj {i a b : Nat} (h : swp i a = swp i b) : a = b := by rw [← swp_swp i a, h, swp_swp]
theorem hb_swp {d d' : Nat → Nat → Bool} {i : Nat} (hd : ∀ a b, d a b = true → d' (swp i a) (swp i b) = true) (h0 : d i (i + 1) = false) {a b : Nat} (h : HB d a b) : HB d' (swp i a) (swp i b) := by
  induction h with
  | @one a b hab q =>
    refine .one ?_ (hd _ _ q)
    unfold swp
    by_cases c : a = i ∧ b = i + 1
    · obtain ⟨rfl, rfl⟩ := c
      rw [h0] at q; cases q
    · (repeat' split) <;> omega
  | «then» _ _ h1 h2 => exact .then h1 h2
theorem cnt_swp2 (p : Nat → Bool) (i : Nat) : cnt (fun k => p (swp i k)) (i + 2) = cnt p (i + 2) := by
  have e : cnt (fun k => p (swp i k)) i = cnt p i := cnt_congr fun k hk => by
    have : swp i k = k := by unfold swp; split <;> (try split) <;> omega
    simp only [this]
  have e1 : swp i i = i + 1 := by simp [swp]
  have e2 : swp i (i + 1) = i := by simp [swp]
  show (cnt (fun k => p (swp i k)) i + (if p (swp i i) then 1 else 0)) + (if p (swp i (i + 1)) then 1 else 0) = (cnt p i + (if p i then 1 else 0)) + (if p (i + 1) then 1 else 0)
  rw [e, e1, e2]
  omega
theorem cnt_swp (p : Nat → Bool) (i : Nat) : ∀ n, i + 2 ≤ n → cnt (fun k => p (swp i k)) n = cnt p n
  | 0, h => by omega
  | n + 1, h => by
    by_cases c : n + 1 = i + 2
    · rw [c]; exact cnt_swp2 p i
    · have ih := cnt_swp p i n (by omega)
      have e : swp i n = n := by unfold swp; split <;> (try split) <;> omega
      show cnt (fun k => p (swp i k)) n + (if p (swp i n) then 1 else 0) = cnt p n + (if p n then 1 else 0)
      rw [ih, e]
/-- The clocks of a trace with two neighbours changed about that do not depend on each other. -/
theorem ck_swp {d d' B B' : Nat → Nat → Bool} (hB : Tells d B) (hB' : Tells d' B') {g g' : Nat → Nat} {i n : Nat} (hn : i + 2 ≤ n) (hd : ∀ a b, d' a b = d (swp i a) (swp i b)) (hg : ∀ a, g' a = g (swp i a)) (h0 : d i (i + 1) = false) (h1 : d (i + 1) i = false) {j : Nat} (hj : j < n) (a : Nat) :
    ck B' g' (swp i j) a = ck B g j a := by
  rw [ckn_at hB' (swp_lt (by omega) hj), ckn_at hB hj, ← cnt_swp _ i n hn]
  refine cnt_congr fun k _ => ?_
  have key : HB d' (swp i k) (swp i j) ↔ HB d k j := by
    constructor
    · intro h
      have := hb_swp (d := d') (d' := d) (i := i) (fun a b q => by rw [hd] at q; exact q) (by rw [hd]; unfold swp; simp; exact h1) h
      rwa [swp_swp, swp_swp] at this
    · intro h
      exact hb_swp (fun a b q => by rw [hd, swp_swp, swp_swp]; exact q) h0 h
  simp only [hg, swp_swp, Bool.and_eq_true, Bool.or_eq_true, beq_iff_eq, hB' _ _, hB k j, key]
  constructor
  · rintro ⟨q1, q2 | q2⟩
    · exact ⟨q1, .inl (swp_inj q2)⟩
    · exact ⟨q1, .inr q2⟩
  · rintro ⟨q1, q2 | q2⟩
    · exact ⟨q1, .inl (by rw [q2])⟩
    · exact ⟨q1, .inr q2⟩
/-- How many stand ahead of each: along every edge one more, and no more than by some edge. -/
structure High (n : Nat) (e : Nat → Nat → Bool) (h : Nat → Int) : Prop where
  pos : ∀ j, j < n → 0 ≤ h j
  up : ∀ i j, i < j → j < n → e i j = true → h i + 1 ≤ h j
  some : ∀ j, j < n → h j = 0 ∨ ∃ i, i < j ∧ e i j = true ∧ h j = h i + 1
theorem High.hb {d B : Nat → Nat → Bool} (hB : Tells d B) {n : Nat} {h : Nat → Int} (hh : High n (edgeB d B) h) : ∀ (m i j : Nat), j ≤ m → j < n → HB d i j → h i + 1 ≤ h j
  | 0, i, j, h1, _, q => by have := q.lt; omega
  | m + 1, i, j, h1, h2, q => by
    obtain ⟨k, k1, k2⟩ := edge_last hB q
    have hk := ((edgeB_iff d B k j).mp k1).1
    have u := hh.up k j hk h2 k1
    rcases k2 with rfl | k2
    · exact u
    · have := hh.hb hB m i k (by omega) (by omega) k2
      omega
/-- As many as a goroutine has: no more than are in a chain. -/
theorem High.own {d B : Nat → Nat → Bool} (hB : Tells d B) {g : Nat → Nat} {n : Nat} (ho : Ord d g n) {h : Nat → Int} (hh : High n (edgeB d B) h) (a : Nat) (H : Int) (h0 : 0 ≤ H) (hH : ∀ j, j < n → h j + 1 ≤ H) :
    ∀ m, m ≤ n → (cnt (fun k => g k == a) m : Int) ≤ H ∧ (cnt (fun k => g k == a) m = 0 ∨ ∃ k, k < m ∧ g k = a ∧ (cnt (fun k => g k == a) m : Int) ≤ h k + 1)
  | 0, _ => ⟨by show ((0 : Nat) : Int) ≤ H; omega, .inl rfl⟩
  | m + 1, hm => by
    obtain ⟨i1, i2⟩ := hh.own hB ho a H h0 hH m (by omega)
    have e : cnt (fun k => g k == a) (m + 1) = cnt (fun k => g k == a) m + (if (g m == a) = true then 1 else 0) := rfl
    by_cases c : g m = a
    · have c2 : (g m == a) = true := by simpa using c
      rw [if_pos c2] at e
      rw [e]
      have key : ((cnt (fun k => g k == a) m + 1 : Nat) : Int) ≤ h m + 1 := by
        rcases i2 with q | ⟨k, k1, k2, k3⟩
        · have := hh.pos m (by omega); rw [q]; omega
        · have := hh.hb hB m k m (Nat.le_refl _) (by omega) (.one k1 (ho k m k1 (by omega) (by rw [k2, c])))
          omega
      refine ⟨by have := hH m (by omega); omega, .inr ⟨m, by omega, c, key⟩⟩
    · have c2 : ¬ (g m == a) = true := by simpa using c
      rw [if_neg c2] at e
      rw [e, Nat.add_zero]
      refine ⟨i1, i2.imp_right ?_⟩
      rintro ⟨k, k1, k2, k3⟩
      exact ⟨k, by omega, k2, k3⟩
end Go.Proofs.YtkadlopcomjonaaDoor.pg
