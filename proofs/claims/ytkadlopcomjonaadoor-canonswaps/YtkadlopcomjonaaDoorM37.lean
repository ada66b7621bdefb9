/- The document's own Past. -/
import Derived.Test.YtkadlopcomjonaaDoorM28
import Derived.Test.YtkadlopcomjonaaDoorM30
import Derived.Test.YtkadlopcomjonaaDoorM31
import Derived.Test.YtkadlopcomjonaaDoorM32
namespace Go.Proofs.YtkadlopcomjonaaDoor.pg
open Go.ChangeShapes Go.WideShapes Go.ChangeAt Go.RowKit Go.Shelf
set_option linter.unusedVariables false
set_option linter.unusedSimpArgs false
set_option maxRecDepth 100000
attribute [local go_sem ↓] Go.wp_at_zero Go.wp_at_succ
end Go.Proofs.YtkadlopcomjonaaDoor.pg
/- OrderAsks. -/
namespace Go.Proofs.YtkadlopcomjonaaDoor.pg
open Go.ChangeShapes Go.WideShapes Go.ChangeAt Go.RowKit Go.Shelf
set_option linter.unusedVariables false
set_option linter.unusedSimpArgs false
set_option maxRecDepth 100000
attribute [local go_sem ↓] Go.wp_at_zero Go.wp_at_succ
theorem past_same {l : List Ev} (hlen : l.length ≤ 256) (hrt : ∀ x ∈ l, rightP x) {B : Nat → Nat → Bool} (hB : Tells (dpf l) B) {i : Nat} (hi : i < l.length) : lst (fPast l i i) 256 = lst (fun k => B k i) l.length := by
  rw [lst_cut 256 hlen fun k h1 _ => by unfold fPast; have : decide (k < i) = false := by simp; omega
                                        rw [this, Bool.false_and]]
  refine lst_congr _ fun k hk => ?_
  unfold fPast
  rw [bef_is hrt hB hk hi]
  by_cases h : k < i
  · simp [h]
  · have : B k i = false := by
      rw [Bool.eq_false_iff]
      intro q
      exact h ((hB k i).mp q).lt
    rw [this, Bool.and_false]
/-- What the law holds of the past, at once. -/
structure PastH (w W : World) (l : List Ev) (i : Nat) (L : List Int) (va : Option Addr) (vc : Nat) : Prop where
  b : Below w.heap.size w W
  p : Rows W 1 va vc (L.map chCells)
theorem PastH.later {w W W' : World} {l : List Ev} {i : Nat} {L : List Int} {va : Option Addr} {vc : Nat} (h : PastH w W l i L va vc) (hb : Below W.heap.size W W') : PastH w W' l i L va vc := ⟨bthen h.b hb, h.p.later hb⟩
end Go.Proofs.YtkadlopcomjonaaDoor.pg
/- What OrderCuts says, of lists of places. -/
namespace Go.Proofs.YtkadlopcomjonaaDoor.pg
open Go.ChangeShapes Go.WideShapes Go.ChangeAt Go.RowKit Go.Shelf
set_option linter.unusedVariables false
set_option linter.unusedSimpArgs false
theorem cloB_lt {d B : Nat → Nat → Bool} (hB : Tells d B) {n : Nat} {f : Nat → Bool} (hf : ∀ k, f k = true → k < n) (a : Nat) (h : cloB B n f a = true) : a < n := by
  rcases (cloB_iff B n f a).mp h with q | ⟨b, b1, b2, _⟩
  · exact hf a q
  · have := ((hB a b).mp b2).lt; omega
theorem fOf_lt {ps : List Int} {n : Nat} (hin : ∀ p ∈ ps, 0 ≤ p ∧ p < (n : Int)) (k : Nat) (h : fOf ps k = true) : k < n := by
  have := hin _ ((fOf_iff ps k).mp h); omega
theorem fOf_lst {f : Nat → Bool} (hf : ∀ k, f k = true → k < 256) : fOf (lst f 256) = f := by
  funext k
  rw [Bool.eq_iff_iff, fOf_iff, lst_mem]
  constructor
  · rintro ⟨j, _, h2, h3⟩
    have : k = j := by omega
    rw [this]; exact h2
  · intro h; exact ⟨k, hf k h, h, rfl⟩
theorem lst_in {f : Nat → Bool} {n : Nat} (hf : ∀ k, f k = true → k < n) : ∀ p ∈ lst f 256, 0 ≤ p ∧ p < (n : Int) := fun p hp => by
  obtain ⟨k, _, h2, rfl⟩ := (lst_mem f p 256).mp hp
  have := hf k h2
  omega
theorem cut_all {B : Nat → Nat → Bool} {n : Nat} {f : Nat → Bool} (h : cloB B n f = f) : true = (List.range 256).all fun k => cloB B n f k == f k := by rw [h]; simp
/-- All places, in their order. -/
def allL (n : Nat) : List Int := (List.range n).map fun k : Nat => (k : Int)
theorem allL_len (n : Nat) : (allL n).length = n := by simp [allL]
theorem allL_more (n : Nat) : allL (n + 1) = allL n ++ [(n : Int)] := by simp [allL, List.range_succ]
theorem allL_in (n : Nat) : ∀ p ∈ allL n, 0 ≤ p ∧ p < (n : Int) := fun p hp => by
  simp only [allL, List.mem_map, List.mem_range] at hp
  obtain ⟨k, h, rfl⟩ := hp
  omega
theorem lst_true : ∀ n, (lst (fun _ => true) n).length = n
  | 0 => rfl
  | n + 1 => by simp [lst, lst_true n]
theorem allL_set {n : Nat} (hn : n ≤ 256) : (lst (fOf (allL n)) 256).length = n := by
  have h : ∀ k, fOf (allL n) k = true ↔ k < n := fun k => by
    rw [fOf_iff]
    constructor
    · intro h; have := allL_in n _ h; omega
    · intro h; simp only [allL, List.mem_map, List.mem_range]; exact ⟨k, h, rfl⟩
  rw [lst_cut (m := n) 256 hn fun k h1 _ => by
    rw [Bool.eq_false_iff]; intro q; have := (h k).mp q; omega]
  rw [lst_congr (g := fun _ => true) n fun k hk => (h k).mpr hk]
  exact lst_true n
theorem atS_all (n : Nat) : ∀ k, k ≤ n → ∀ i, i < k → (atS n (allL n) k).getD i 0 = (i : Int)
  | 0, _, i, hi => by omega
  | k + 1, hk, i, hi => by
    have hg : ((allL n).getD k 0).toNat = k := by
      rw [List.getD_eq_getElem?_getD]
      simp [allL, List.getElem?_range (show k < n by omega)]
    rw [atS, hg, List.getD_eq_getElem?_getD, List.getElem?_set]
    by_cases c : k = i
    · subst c
      rw [if_pos rfl, if_pos (by rw [atS_len]; omega)]
      rfl
    · rw [if_neg c, ← List.getD_eq_getElem?_getD]
      exact atS_all n k (by omega) i (by omega)
theorem linB_all {n : Nat} {E : List (Nat × Nat)} (hE : ∀ p ∈ E, p.1 < p.2 ∧ p.2 < n) : true = linB E (atS n (allL n) n) := by
  symm
  unfold linB
  rw [List.all_eq_true]
  intro p hp
  obtain ⟨h1, h2⟩ := hE p hp
  unfold linOk
  rw [atS_all n n (Nat.le_refl _) p.1 (by omega), atS_all n n (Nat.le_refl _) p.2 h2]
  have : ¬ ((p.2 : Int) < (p.1 : Int)) := by omega
  simp [this]
section
variable {d B : Nat → Nat → Bool} (hB : Tells d B) {n i : Nat} (hi : i < n)
include hB hi
theorem past_f (k : Nat) : fOf (lst (fun k => B k i) n ++ [(i : Int)]) k = (B k i || k == i) := by
  rw [Bool.eq_iff_iff, fOf_iff, List.mem_append, lst_mem, List.mem_singleton, Bool.or_eq_true, beq_iff_eq]
  constructor
  · rintro (⟨j, _, h2, h3⟩ | h)
    · have : k = j := by omega
      rw [this]; exact .inl h2
    · right; omega
  · rintro (h | h)
    · have := ((hB k i).mp h).lt
      exact .inl ⟨k, by omega, h, rfl⟩
    · right; omega
theorem past_len : (lst (fun k => B k i) n).length ≤ i := by
  rw [lst_cut (m := i) n (by omega) fun k h1 _ => by
    rw [Bool.eq_false_iff]; intro q; have := ((hB k i).mp q).lt; omega]
  exact lst_len _ i
theorem past_cut : cloB B n (fOf (lst (fun k => B k i) n ++ [(i : Int)])) = fOf (lst (fun k => B k i) n ++ [(i : Int)]) := by
  funext a
  rw [Bool.eq_iff_iff, cloB_iff, past_f hB hi a]
  constructor
  · rintro (h | ⟨b, b1, b2, b3⟩)
    · exact h
    · rw [past_f hB hi b, Bool.or_eq_true, beq_iff_eq] at b3
      rw [Bool.or_eq_true]
      left
      rcases b3 with q | rfl
      · exact (hB a i).mpr (.then ((hB a b).mp b2) ((hB b i).mp q))
      · exact b2
  · exact .inl
end
theorem past_in {B : Nat → Nat → Bool} {n i : Nat} (hi : i < n) : ∀ p ∈ lst (fun k => B k i) n ++ [(i : Int)], 0 ≤ p ∧ p < (n : Int) := fun p hp => by
  rw [List.mem_append, List.mem_singleton, lst_mem] at hp
  rcases hp with ⟨k, h1, h2, rfl⟩ | rfl <;> omega
end Go.Proofs.YtkadlopcomjonaaDoor.pg
