/- OrderAsks. -/
import Derived.Test.YtkadlopcomjonaaM29
import Derived.Test.YtkadlopcomjonaaM35
import Derived.Test.YtkadlopcomjonaaM30
import Derived.Test.YtkadlopcomjonaaM31
namespace Go.Proofs.Ytkadlopcomjonaa.pg
open Go.ChangeShapes Go.WideShapes Go.ChangeAt Go.RowKit Go.Shelf
set_option linter.unusedVariables false
set_option linter.unusedSimpArgs false
set_option maxRecDepth 100000
attribute [local go_sem ↓] Go.wp_at_zero Go.wp_at_succ
theorem past_same {l : List Ev} (hlen : l.length ≤ 256) (hrt : ∀ x ∈ l, rightP x) {B : Nat → Nat → Bool} (hB : Tells (dpf l) B) {i : Nat} (hi : i < l.length) : lst (fPast l i i) 256 = lst (fun k => B k i) l.length := by
  rw [lst_cut 256 hlen fun k h1 _ => by unfold fPast; have : decide (k < i) = false := by simp; omega
                                        rw [this, Bool.false_and]]
  refine lst_congr _ fun k hk => ?_
  unfold fPast
  rw [bef_is hrt hB hk hi]
  by_cases h : k < i
  · simp [h]
  · have : B k i = false := by
      rw [Bool.eq_false_iff]
      intro q
      exact h ((hB k i).mp q).lt
    rw [this, Bool.and_false]
/-- What the law holds of the past, at once. -/
structure PastH (w W : World) (l : List Ev) (i : Nat) (L : List Int) (va : Option Addr) (vc : Nat) : Prop where
  b : Below w.heap.size w W
  p : Rows W 1 va vc (L.map chCells)
theorem PastH.later {w W W' : World} {l : List Ev} {i : Nat} {L : List Int} {va : Option Addr} {vc : Nat} (h : PastH w W l i L va vc) (hb : Below W.heap.size W W') : PastH w W' l i L va vc := ⟨bthen h.b hb, h.p.later hb⟩
end Go.Proofs.Ytkadlopcomjonaa.pg
/- What OrderCuts says, of lists of places. -/
namespace Go.Proofs.Ytkadlopcomjonaa.pg
open Go.ChangeShapes Go.WideShapes Go.ChangeAt Go.RowKit Go.Shelf
set_option linter.unusedVariables false
set_option linter.unusedSimpArgs false
theorem cloB_lt {d B : Nat → Nat → Bool} (hB : Tells d B) {n : Nat} {f : Nat → Bool} (hf : ∀ k, f k = true → k < n) (a : Nat) (h : cloB B n f a = true) : a < n := by
  rcases (cloB_iff B n f a).mp h with q | ⟨b, b1, b2, _⟩
  · exact hf a q
  · have := ((hB a b).mp b2).lt; omega
theorem fOf_lt {ps : List Int} {n : Nat} (hin : ∀ p ∈ ps, 0 ≤ p ∧ p < (n : Int)) (k : Nat) (h : fOf ps k = true) : k < n := by
  have := hin _ ((fOf_iff ps k).mp h); omega
theorem fOf_lst {f : Nat → Bool} (hf : ∀ k, f k = true → k < 256) : fOf (lst f 256) = f := by
  funext k
  rw [Bool.eq_iff_iff, fOf_iff, lst_mem]
  constructor
  · rintro ⟨j, _, h2, h3⟩
    have : k = j := by omega
    rw [this]; exact h2
  · intro h; exact ⟨k, hf k h, h, rfl⟩
theorem lst_in {f : Nat → Bool} {n : Nat} (hf : ∀ k, f k = true → k < n) : ∀ p ∈ lst f 256, 0 ≤ p ∧ p < (n : Int) := fun p hp => by
  obtain ⟨k, _, h2, rfl⟩ := (lst_mem f p 256).mp hp
  have := hf k h2
  omega
theorem cut_all {B : Nat → Nat → Bool} {n : Nat} {f : Nat → Bool} (h : cloB B n f = f) : true = (List.range 256).all fun k => cloB B n f k == f k := by rw [h]; simp
/-- All places, in their order. -/
def allL (n : Nat) : List Int := (List.range n).map fun k : Nat => (k : Int)
theorem allL_len (n : Nat) : (allL n).length = n := by simp [allL]
theorem allL_more (n : Nat) : allL (n + 1) = allL n ++ [(n : Int)] := by simp [allL, List.range_succ]
theorem allL_in (n : Nat) : ∀ p ∈ allL n, 0 ≤ p ∧ p < (n : Int) := fun p hp => by
  simp only [allL, List.mem_map, List.mem_range] at hp
  obtain ⟨k, h, rfl⟩ := hp
  omega
theorem lst_true : ∀ n, (lst (fun _ => true) n).length = n
  | 0 => rfl
  | n + 1 => by simp [lst, lst_true n]
theorem allL_set {n : Nat} (hn : n ≤ 256) : (lst (fOf (allL n)) 256).length = n := by
  have h : ∀ k, fOf (allL n) k = true ↔ k < n := fun k => by
    rw [fOf_iff]
    constructor
    · intro h; have := allL_in n _ h; omega
    · intro h; simp only [allL, List.mem_map, List.mem_range]; exact ⟨k, h, rfl⟩
  rw [lst_cut (m := n) 256 hn fun k h1 _ => by
    rw [Bool.eq_false_iff]; intro q; have := (h k).mp q; omega]
  rw [lst_congr (g := fun _ => true) n fun k hk => (h k).mpr hk]
  exact lst_true n
theorem atS_all (n : Nat) : ∀ k, k ≤ n → ∀ i, i < k → (atS n (allL n) k).getD i 0 = (i : Int)
  | 0, _, i, hi => by omega
  | k + 1, hk, i, hi => by
    have hg : ((allL n).getD k 0).toNat = k := by
      rw [List.getD_eq_getElem?_getD]
      simp [allL, List.getElem?_range (show k < n by omega)]
    rw [atS, hg, List.getD_eq_getElem?_getD, List.getElem?_set]
    by_cases c : k = i
    · subst c
      rw [if_pos rfl, if_pos (by rw [atS_len]; omega)]
      rfl
    · rw [if_neg c, ← List.getD_eq_getElem?_getD]
      exact atS_all n k (by omega) i (by omega)
theorem linB_all {n : Nat} {E : List (Nat × Nat)} (hE : ∀ p ∈ E, p.1 < p.2 ∧ p.2 < n) : true = linB E (atS n (allL n) n) := by
  symm
  unfold linB
  rw [List.all_eq_true]
  intro p hp
  obtain ⟨h1, h2⟩ := hE p hp
  unfold linOk
  rw [atS_all n n (Nat.le_refl _) p.1 (by omega), atS_all n n (Nat.le_refl _) p.2 h2]
  have : ¬ ((p.2 : Int) < (p.1 : Int)) := by omega
  simp [this]
section
variable {d B : Nat → Nat → Bool} (hB : Tells d B) {n i : Nat} (hi : i < n)
include hB hi
theorem past_f (k : Nat) : fOf (lst (fun k => B k i) n ++ [(i : Int)]) k = (B k i || k == i) := by
  rw [Bool.eq_iff_iff, fOf_iff, List.mem_append, lst_mem, List.mem_singleton, Bool.or_eq_true, beq_iff_eq]
  constructor
  · rintro (⟨j, _, h2, h3⟩ | h)
    · have : k = j := by omega
      rw [this]; exact .inl h2
    · right; omega
  · rintro (h | h)
    · have := ((hB k i).mp h).lt
      exact .inl ⟨k, by omega, h, rfl⟩
    · right; omega
theorem past_len : (lst (fun k => B k i) n).length ≤ i := by
  rw [lst_cut (m := i) n (by omega) fun k h1 _ => by
    rw [Bool.eq_false_iff]; intro q; have := ((hB k i).mp q).lt; omega]
  exact lst_len _ i
theorem past_cut : cloB B n (fOf (lst (fun k => B k i) n ++ [(i : Int)])) = fOf (lst (fun k => B k i) n ++ [(i : Int)]) := by
  funext a
  rw [Bool.eq_iff_iff, cloB_iff, past_f hB hi a]
  constructor
  · rintro (h | ⟨b, b1, b2, b3⟩)
    · exact h
    · rw [past_f hB hi b, Bool.or_eq_true, beq_iff_eq] at b3
      rw [Bool.or_eq_true]
      left
      rcases b3 with q | rfl
      · exact (hB a i).mpr (.then ((hB a b).mp b2) ((hB b i).mp q))
      · exact b2
  · exact .inl
end
theorem past_in {B : Nat → Nat → Bool} {n i : Nat} (hi : i < n) : ∀ p ∈ lst (fun k => B k i) n ++ [(i : Int)], 0 ≤ p ∧ p < (n : Int) := fun p hp => by
  rw [List.mem_append, List.mem_singleton, lst_mem] at hp
  rcases hp with ⟨k, h1, h2, rfl⟩ | rfl <;> omega
end Go.Proofs.Ytkadlopcomjonaa.pg
/- What OrderLists says, of lists of places. -/
namespace Go.Proofs.Ytkadlopcomjonaa.pg
open Go.ChangeShapes Go.WideShapes Go.ChangeAt Go.RowKit Go.Shelf
set_option linter.unusedVariables false
set_option linter.unusedSimpArgs false
theorem inTo_end {ps : List Int} {n : Nat} (hin : ∀ p ∈ ps, 0 ≤ p ∧ p < (n : Int)) (B : Nat → Nat → Bool) (i : Nat) : cloB B n (fOf ps) i = inTo ps B i ps.length := by
  rw [Bool.eq_iff_iff, cloB_iff]
  unfold inTo
  rw [List.take_length, List.any_eq_true]
  constructor
  · rintro (h | ⟨b, b1, b2, b3⟩)
    · exact ⟨_, (fOf_iff ps i).mp h, by simp⟩
    · exact ⟨_, (fOf_iff ps b).mp b3, by simp [b2]⟩
  · rintro ⟨x, hx, h⟩
    obtain ⟨x0, x1⟩ := hin x hx
    obtain ⟨a, rfl⟩ := Int.eq_ofNat_of_zero_le x0
    rw [Bool.or_eq_true, beq_iff_eq] at h
    rcases h with h | h
    · left
      rw [fOf_iff, h]; exact hx
    · exact .inr ⟨a, by omega, h, (fOf_iff ps a).mpr hx⟩
theorem cut_same {ps : List Int} {n : Nat} (hn : n ≤ 256) {f : Nat → Bool} (hf : ∀ k, f k = true → k < n) (hs : ∀ k, fOf ps k = true → f k = true) : ((List.range 256).all fun k => f k == fOf ps k) = (lst f n).all fun y => anyJ ps y ps.length := by
  rw [Bool.eq_iff_iff, List.all_eq_true, List.all_eq_true]
  have hJ : ∀ k : Nat, anyJ ps (k : Int) ps.length = true ↔ fOf ps k = true := fun k => by
    unfold anyJ
    rw [List.take_length, fOf_iff, List.any_eq_true]
    constructor
    · rintro ⟨x, hx, h⟩
      rw [beq_iff_eq] at h
      rw [h]; exact hx
    · intro h; exact ⟨_, h, by simp⟩
  constructor
  · intro h y hy
    obtain ⟨k, k1, k2, rfl⟩ := (lst_mem f y n).mp hy
    have := h k (List.mem_range.mpr (by omega))
    rw [beq_iff_eq] at this
    exact (hJ k).mpr (by rw [← this]; exact k2)
  · intro h k hk
    rw [beq_iff_eq]
    cases hfk : f k with
    | true =>
      symm
      exact (hJ k).mp (h _ ((lst_mem f _ n).mpr ⟨k, hf k hfk, hfk, rfl⟩))
    | false =>
      symm
      rw [Bool.eq_false_iff]
      intro q
      rw [hs k q] at hfk
      cases hfk
theorem lst_succ (f : Nat → Bool) (n : Nat) : (lst f (n + 1)).length = (lst f n).length + (if f n = true then 1 else 0) := by
  rw [lst, List.length_append]
  by_cases h : f n = true <;> simp [h]
theorem lst_add (f : Nat → Bool) (x : Nat) : ∀ n, (lst (fun a => if a = x then true else f a) n).length = (lst f n).length + (if x < n ∧ f x = false then 1 else 0)
  | 0 => by simp [lst]
  | n + 1 => by
    rw [lst_succ, lst_succ, lst_add f x n]
    by_cases h : n = x
    · subst h
      cases hf : f n <;> simp [hf]
    · have h1 : (x < n + 1) = (x < n) := by rw [eq_iff_iff]; omega
      simp only [h, if_false, h1]
      omega
theorem lst_full {f : Nat → Bool} : ∀ n, (lst f n).length = n → ∀ k, k < n → f k = true
  | 0, _, k, hk => by omega
  | n + 1, h, k, hk => by
    rw [lst_succ] at h
    have := lst_len f n
    by_cases hf : f n = true
    · rw [if_pos hf] at h
      by_cases c : k = n
      · rw [c]; exact hf
      · exact lst_full n (by omega) k (by omega)
    · rw [if_neg hf] at h
      omega
def dupP (ps : List Int) (j : Nat) : Prop := ∃ x, ps[j]? = some x ∧ fOf (ps.take j) x.toNat = true
theorem dist_iff {ps : List Int} (hin : ∀ p ∈ ps, 0 ≤ p ∧ p < 256) : ∀ k, k ≤ ps.length → (lst (fOf (ps.take k)) 256).length ≤ k ∧ ((lst (fOf (ps.take k)) 256).length = k ↔ ∀ j, j < k → ¬ dupP ps j)
  | 0, _ => by
    have : (lst (fOf (ps.take 0)) 256).length = 0 := by
      rw [lst_cut (m := 0) 256 (by omega) fun k _ _ => by simp [fOf]]
      rfl
    rw [this]
    exact ⟨Nat.le_refl _, fun _ j hj => by omega, fun _ => rfl⟩
  | k + 1, hk => by
    obtain ⟨i1, i2⟩ := dist_iff hin k (by omega)
    obtain ⟨x, hx, hxm⟩ := get_lt ps k (by omega)
    obtain ⟨x0, x1⟩ := hin x hxm
    obtain ⟨a, rfl⟩ := Int.eq_ofNat_of_zero_le x0
    have e : fOf (ps.take (k + 1)) = fun b => if b = a then true else fOf (ps.take k) b := by
      funext b
      rw [take_one ps k _ hx]
      exact (fOf_more (ps.take k) a b).symm
    rw [e, lst_add]
    have ha : a < 256 := by omega
    have hd : dupP ps k ↔ fOf (ps.take k) a = true := by
      constructor
      · rintro ⟨y, hy, q⟩
        rw [hx, Option.some.injEq] at hy
        subst hy
        exact q
      · intro q; exact ⟨_, hx, q⟩
    generalize (lst (fOf (ps.take k)) 256).length = d at *
    cases hv : fOf (ps.take k) a with
    | true =>
      simp only [ha, Bool.true_eq_false, and_false, if_false, Nat.add_zero]
      refine ⟨by omega, fun h => by omega, fun h => absurd (hd.mpr hv) (h k (by omega))⟩
    | false =>
      simp only [ha, true_and, if_true]
      refine ⟨by omega, fun h j hj => ?_, fun h => ?_⟩
      · by_cases c : j = k
        · subst c
          rw [hd, hv]; exact Bool.false_ne_true
        · exact i2.mp (by omega) j (by omega)
      · have := i2.mpr fun j hj => h j (by omega)
        omega
section
variable {ps : List Int} {n : Nat} (hps : ps.length ≤ 256) (hn : n ≤ 256) (hin : ∀ p ∈ ps, 0 ≤ p ∧ p < (n : Int))
include hps hn hin
theorem dist_end : (lst (fOf ps) 256).length = ps.length ↔ ∀ j, ¬ dupP ps j := by
  have _ := hps
  have h := (dist_iff (fun p hp => by have := hin p hp; omega) ps.length (Nat.le_refl _)).2
  rw [List.take_length] at h
  rw [h]
  constructor
  · intro h j
    by_cases hj : j < ps.length
    · exact h j hj
    · rintro ⟨y, hy, _⟩
      rw [List.getElem?_eq_none (by omega)] at hy
      cases hy
  · intro h j _; exact h j
theorem plBad_in (k : Nat) : plBad n ps true k ↔ dupP ps k := by
  have _ := hps
  have _ := hn
  constructor
  · rintro ⟨x, hx, q | q⟩
    · exact absurd (hin x (List.mem_of_getElem? hx)) q
    · exact ⟨x, hx, q.2⟩
  · rintro ⟨x, hx, q⟩
    exact ⟨x, hx, .inr ⟨rfl, q⟩⟩
theorem plR_in : plR n ps false 0 := by
  have _ := hn
  refine .inr (.inr ⟨hps, fun k => ?_, fun h => absurd h Bool.false_ne_true, rfl⟩)
  rintro ⟨x, hx, q | q⟩
  · exact q (hin x (List.mem_of_getElem? hx))
  · exact Bool.false_ne_true q.1
theorem plR_lin1 (h : ps.length ≠ n ∨ (lst (fOf ps) 256).length ≠ n) : plR n ps true 1 := by
  refine .inr (.inl ⟨hps, ?_, rfl⟩)
  by_cases h1 : ps.length = n
  · left
    have h2 : ¬ (lst (fOf ps) 256).length = ps.length := by
      rcases h with h | h
      · exact absurd h1 h
      · rw [h1]; exact h
    rw [dist_end hps hn hin] at h2
    apply Classical.byContradiction
    intro q
    exact h2 fun j hj => q ⟨j, (plBad_in hps hn hin j).mpr hj⟩
  · exact .inr ⟨rfl, h1⟩
theorem plR_lin0 (h1 : ps.length = n) (h2 : (lst (fOf ps) 256).length = n) : plR n ps true 0 :=
  .inr (.inr ⟨hps, fun k q => (dist_end hps hn hin).mp (by rw [h1]; exact h2) k ((plBad_in hps hn hin k).mp q), fun _ => h1, rfl⟩)
theorem at_get (hd : ∀ j, ¬ dupP ps j) : ∀ k, k ≤ ps.length → ∀ (j a : Nat), j < k → ps[j]? = some (a : Int) → (atS n ps k).getD a 0 = (j : Int)
  | 0, _, j, a, hj, _ => by omega
  | k + 1, hk, j, a, hj, ha => by
    have _ := hps
    have _ := hn
    obtain ⟨x, hx, hxm⟩ := get_lt ps k (by omega)
    obtain ⟨x0, x1⟩ := hin x hxm
    obtain ⟨b, rfl⟩ := Int.eq_ofNat_of_zero_le x0
    rw [← atS_more hx, List.getD_eq_getElem?_getD, List.getElem?_set]
    by_cases c : j = k
    · subst c
      rw [hx, Option.some.injEq] at ha
      have : b = a := by omega
      subst this
      rw [if_pos rfl, if_pos (by rw [atS_len]; omega)]
      rfl
    · have hne : ¬ b = a := by
        intro q
        subst q
        refine hd k ⟨_, hx, ?_⟩
        show fOf (ps.take k) b = true
        rw [fOf_iff]
        have : (ps.take k)[j]? = some (b : Int) := by rw [List.getElem?_take, if_pos (by omega)]; exact ha
        exact List.mem_of_getElem? this
      rw [if_neg hne, ← List.getD_eq_getElem?_getD]
      exact at_get hd k (by omega) j a (by omega) ha
theorem at_all (h2 : (lst (fOf ps) 256).length = n) {a : Nat} (ha : a < n) : ∃ j, j < ps.length ∧ ps[j]? = some (a : Int) := by
  have _ := hps
  have hc : lst (fOf ps) 256 = lst (fOf ps) n := lst_cut 256 hn fun k h _ => by
    rw [Bool.eq_false_iff]
    intro q
    have := fOf_lt hin k q
    omega
  rw [hc] at h2
  have := (fOf_iff ps a).mp (lst_full n h2 a ha)
  obtain ⟨j, hj, e⟩ := List.mem_iff_getElem.mp this
  exact ⟨j, hj, by rw [List.getElem?_eq_getElem hj, e]⟩
theorem lin_same {d B : Nat → Nat → Bool} (hB : Tells d B) {E : List (Nat × Nat)} (hE : ∀ p, p ∈ E ↔ p.1 < p.2 ∧ p.2 < n ∧ edgeB d B p.1 p.2 = true) (h1 : ps.length = n) (h2 : (lst (fOf ps) 256).length = n) :
    linB E (atS n ps ps.length) = true ↔ ∀ i, i < ps.length → ∀ k, k < i → upP ps B i k := by
  have hd := (dist_end hps hn hin).mp (by rw [h1]; exact h2)
  have hat : ∀ (j a : Nat), ps[j]? = some ((a : Nat) : Int) → (atS n ps ps.length).getD a 0 = (j : Int) := fun j a h => at_get hps hn hin hd ps.length (Nat.le_refl _) j a (List.getElem?_eq_some_iff.mp h).1 h
  generalize atS n ps ps.length = s at *
  unfold linB
  rw [List.all_eq_true]
  have hok : ∀ p, linOk s p = true ↔ ¬ s.getD p.2 0 < s.getD p.1 0 := fun p => by unfold linOk; rw [Bool.not_eq_true', decide_eq_false_iff_not]
  constructor
  · intro h
    have key : ∀ g a b, b - a ≤ g → b < n → HB d a b → s.getD a 0 ≤ s.getD b 0 := by
      intro g
      induction g with
      | zero => intro a b hg _ hh; have := hh.lt; omega
      | succ g ih =>
        intro a b hg hb hh
        obtain ⟨m, m1, m2⟩ := edge_first hB hh
        have hlt := ((edgeB_iff d B a m).mp m1).1
        have hmb : m ≤ b := by
          rcases m2 with rfl | m2
          · exact Nat.le_refl _
          · have := m2.lt; omega
        have h3 := (hok (a, m)).mp (h (a, m) ((hE (a, m)).mpr ⟨hlt, by show m < n; omega, m1⟩))
        simp only at h3
        rcases m2 with rfl | m2
        · omega
        · have := ih m b (by omega) hb m2
          omega
    intro i hi k hk
    unfold upP
    obtain ⟨x, hx, hxm⟩ := get_lt ps i hi
    obtain ⟨y, hy, hym⟩ := get_lt ps k (by omega)
    obtain ⟨a, rfl⟩ := Int.eq_ofNat_of_zero_le (hin x hxm).1
    obtain ⟨b, rfl⟩ := Int.eq_ofNat_of_zero_le (hin y hym).1
    rw [List.getD_eq_getElem?_getD, List.getD_eq_getElem?_getD, hx, hy]
    show B a b = false
    rw [Bool.eq_false_iff]
    intro q
    have := key (b - a) a b (Nat.le_refl _) (by have := hin _ hym; omega) ((hB a b).mp q)
    rw [hat i a hx, hat k b hy] at this
    omega
  · rintro h ⟨a, b⟩ hp
    obtain ⟨e1, e2, e3⟩ := (hE (a, b)).mp hp
    simp only at e1 e2 e3
    rw [hok]
    simp only
    obtain ⟨i, hi, hx⟩ := at_all hps hn hin h2 (show a < n by omega)
    obtain ⟨k, hk, hy⟩ := at_all hps hn hin h2 e2
    rw [hat i a hx, hat k b hy]
    intro q
    have := h i hi k (by omega)
    unfold upP at this
    rw [List.getD_eq_getElem?_getD, List.getD_eq_getElem?_getD, hx, hy] at this
    have h5 : B a b = false := this
    rw [(hB a b).mpr (edgeB_hb hB e3)] at h5
    cases h5
end
end Go.Proofs.Ytkadlopcomjonaa.pg
