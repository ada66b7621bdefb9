/- What OrderLists says, of lists of places. -/
import Derived.Test.YtkadlopcomjonaaDoorM36
import Derived.Test.YtkadlopcomjonaaDoorM37
import Derived.Test.YtkadlopcomjonaaDoorM34
namespace Go.Proofs.YtkadlopcomjonaaDoor.pg
open Go.ChangeShapes Go.WideShapes Go.ChangeAt Go.RowKit Go.Shelf
set_option linter.unusedVariables false
set_option linter.unusedSimpArgs false
theorem inTo_end {ps : List Int} {n : Nat} (hin : ∀ p ∈ ps, 0 ≤ p ∧ p < (n : Int)) (B : Nat → Nat → Bool) (i : Nat) : cloB B n (fOf ps) i = inTo ps B i ps.length := by
  rw [Bool.eq_iff_iff, cloB_iff]
  unfold inTo
  rw [List.take_length, List.any_eq_true]
  constructor
  · rintro (h | ⟨b, b1, b2, b3⟩)
    · exact ⟨_, (fOf_iff ps i).mp h, by simp⟩
    · exact ⟨_, (fOf_iff ps b).mp b3, by simp [b2]⟩
  · rintro ⟨x, hx, h⟩
    obtain ⟨x0, x1⟩ := hin x hx
    obtain ⟨a, rfl⟩ := Int.eq_ofNat_of_zero_le x0
    rw [Bool.or_eq_true, beq_iff_eq] at h
    rcases h with h | h
    · left
      rw [fOf_iff, h]; exact hx
    · exact .inr ⟨a, by omega, h, (fOf_iff ps a).mpr hx⟩
theorem cut_same {ps : List Int} {n : Nat} (hn : n ≤ 256) {f : Nat → Bool} (hf : ∀ k, f k = true → k < n) (hs : ∀ k, fOf ps k = true → f k = true) : ((List.range 256).all fun k => f k == fOf ps k) = (lst f n).all fun y => anyJ ps y ps.length := by
  rw [Bool.eq_iff_iff, List.all_eq_true, List.all_eq_true]
  have hJ : ∀ k : Nat, anyJ ps (k : Int) ps.length = true ↔ fOf ps k = true := fun k => by
    unfold anyJ
    rw [List.take_length, fOf_iff, List.any_eq_true]
    constructor
    · rintro ⟨x, hx, h⟩
      rw [beq_iff_eq] at h
      rw [h]; exact hx
    · intro h; exact ⟨_, h, by simp⟩
  constructor
  · intro h y hy
    obtain ⟨k, k1, k2, rfl⟩ := (lst_mem f y n).mp hy
    have := h k (List.mem_range.mpr (by omega))
    rw [beq_iff_eq] at this
    exact (hJ k).mpr (by rw [← this]; exact k2)
  · intro h k hk
    rw [beq_iff_eq]
    cases hfk : f k with
    | true =>
      symm
      exact (hJ k).mp (h _ ((lst_mem f _ n).mpr ⟨k, hf k hfk, hfk, rfl⟩))
    | false =>
      symm
      rw [Bool.eq_false_iff]
      intro q
      rw [hs k q] at hfk
      cases hfk
theorem lst_succ (f : Nat → Bool) (n : Nat) : (lst f (n + 1)).length = (lst f n).length + (if f n = true then 1 else 0) := by
  rw [lst, List.length_append]
  by_cases h : f n = true <;> simp [h]
theorem lst_add (f : Nat → Bool) (x : Nat) : ∀ n, (lst (fun a => if a = x then true else f a) n).length = (lst f n).length + (if x < n ∧ f x = false then 1 else 0)
  | 0 => by simp [lst]
  | n + 1 => by
    rw [lst_succ, lst_succ, lst_add f x n]
    by_cases h : n = x
    · subst h
      cases hf : f n <;> simp [hf]
    · have h1 : (x < n + 1) = (x < n) := by rw [eq_iff_iff]; omega
      simp only [h, if_false, h1]
      omega
theorem lst_full {f : Nat → Bool} : ∀ n, (lst f n).length = n → ∀ k, k < n → f k = true
  | 0, _, k, hk => by omega
  | n + 1, h, k, hk => by
    rw [lst_succ] at h
    have := lst_len f n
    by_cases hf : f n = true
    · rw [if_pos hf] at h
      by_cases c : k = n
      · rw [c]; exact hf
      · exact lst_full n (by omega) k (by omega)
    · rw [if_neg hf] at h
      omega
def dupP (ps : List Int) (j : Nat) : Prop := ∃ x, ps[j]? = some x ∧ fOf (ps.take j) x.toNat = true
theorem dist_iff {ps : List Int} (hin : ∀ p ∈ ps, 0 ≤ p ∧ p < 256) : ∀ k, k ≤ ps.length → (lst (fOf (ps.take k)) 256).length ≤ k ∧ ((lst (fOf (ps.take k)) 256).length = k ↔ ∀ j, j < k → ¬ dupP ps j)
  | 0, _ => by
    have : (lst (fOf (ps.take 0)) 256).length = 0 := by
      rw [lst_cut (m := 0) 256 (by omega) fun k _ _ => by simp [fOf]]
      rfl
    rw [this]
    exact ⟨Nat.le_refl _, fun _ j hj => by omega, fun _ => rfl⟩
  | k + 1, hk => by
    obtain ⟨i1, i2⟩ := dist_iff hin k (by omega)
    obtain ⟨x, hx, hxm⟩ := get_lt ps k (by omega)
    obtain ⟨x0, x1⟩ := hin x hxm
    obtain ⟨a, rfl⟩ := Int.eq_ofNat_of_zero_le x0
    have e : fOf (ps.take (k + 1)) = fun b => if b = a then true else fOf (ps.take k) b := by
      funext b
      rw [take_one ps k _ hx]
      exact (fOf_more (ps.take k) a b).symm
    rw [e, lst_add]
    have ha : a < 256 := by omega
    have hd : dupP ps k ↔ fOf (ps.take k) a = true := by
      constructor
      · rintro ⟨y, hy, q⟩
        rw [hx, Option.some.injEq] at hy
        subst hy
        exact q
      · intro q; exact ⟨_, hx, q⟩
    generalize (lst (fOf (ps.take k)) 256).length = d at *
    cases hv : fOf (ps.take k) a with
    | true =>
      simp only [ha, Bool.true_eq_false, and_false, if_false, Nat.add_zero]
      refine ⟨by omega, fun h => by omega, fun h => absurd (hd.mpr hv) (h k (by omega))⟩
    | false =>
      simp only [ha, true_and, if_true]
      refine ⟨by omega, fun h j hj => ?_, fun h => ?_⟩
      · by_cases c : j = k
        · subst c
          rw [hd, hv]; exact Bool.false_ne_true
        · exact i2.mp (by omega) j (by omega)
      · have := i2.mpr fun j hj => h j (by omega)
        omega
section
variable {ps : List Int} {n : Nat} (hps : ps.length ≤ 256) (hn : n ≤ 256) (hin : ∀ p ∈ ps, 0 ≤ p ∧ p < (n : Int))
include hps hn hin
theorem dist_end : (lst (fOf ps) 256).length = ps.length ↔ ∀ j, ¬ dupP ps j := by
  have _ := hps
  have h := (dist_iff (fun p hp => by have := hin p hp; omega) ps.length (Nat.le_refl _)).2
  rw [List.take_length] at h
  rw [h]
  constructor
  · intro h j
    by_cases hj : j < ps.length
    · exact h j hj
    · rintro ⟨y, hy, _⟩
      rw [List.getElem?_eq_none (by omega)] at hy
      cases hy
  · intro h j _; exact h j
theorem plBad_in (k : Nat) : plBad n ps true k ↔ dupP ps k := by
  have _ := hps
  have _ := hn
  constructor
  · rintro ⟨x, hx, q | q⟩
    · exact absurd (hin x (List.mem_of_getElem? hx)) q
    · exact ⟨x, hx, q.2⟩
  · rintro ⟨x, hx, q⟩
    exact ⟨x, hx, .inr ⟨rfl, q⟩⟩
theorem plR_in : plR n ps false 0 := by
  have _ := hn
  refine .inr (.inr ⟨hps, fun k => ?_, fun h => absurd h Bool.false_ne_true, rfl⟩)
  rintro ⟨x, hx, q | q⟩
  · exact q (hin x (List.mem_of_getElem? hx))
  · exact Bool.false_ne_true q.1
theorem plR_lin1 (h : ps.length ≠ n ∨ (lst (fOf ps) 256).length ≠ n) : plR n ps true 1 := by
  refine .inr (.inl ⟨hps, ?_, rfl⟩)
  by_cases h1 : ps.length = n
  · left
    have h2 : ¬ (lst (fOf ps) 256).length = ps.length := by
      rcases h with h | h
      · exact absurd h1 h
      · rw [h1]; exact h
    rw [dist_end hps hn hin] at h2
    apply Classical.byContradiction
    intro q
    exact h2 fun j hj => q ⟨j, (plBad_in hps hn hin j).mpr hj⟩
  · exact .inr ⟨rfl, h1⟩
theorem plR_lin0 (h1 : ps.length = n) (h2 : (lst (fOf ps) 256).length = n) : plR n ps true 0 :=
  .inr (.inr ⟨hps, fun k q => (dist_end hps hn hin).mp (by rw [h1]; exact h2) k ((plBad_in hps hn hin k).mp q), fun _ => h1, rfl⟩)
theorem at_get (hd : ∀ j, ¬ dupP ps j) : ∀ k, k ≤ ps.length → ∀ (j a : Nat), j < k → ps[j]? = some (a : Int) → (atS n ps k).getD a 0 = (j : Int)
  | 0, _, j, a, hj, _ => by omega
  | k + 1, hk, j, a, hj, ha => by
    have _ := hps
    have _ := hn
    obtain ⟨x, hx, hxm⟩ := get_lt ps k (by omega)
    obtain ⟨x0, x1⟩ := hin x hxm
    obtain ⟨b, rfl⟩ := Int.eq_ofNat_of_zero_le x0
    rw [← atS_more hx, List.getD_eq_getElem?_getD, List.getElem?_set]
    by_cases c : j = k
    · subst c
      rw [hx, Option.some.injEq] at ha
      have : b = a := by omega
      subst this
      rw [if_pos rfl, if_pos (by rw [atS_len]; omega)]
      rfl
    · have hne : ¬ b = a := by
        intro q
        subst q
        refine hd k ⟨_, hx, ?_⟩
        show fOf (ps.take k) b = true
        rw [fOf_iff]
        have : (ps.take k)[j]? = some (b : Int) := by rw [List.getElem?_take, if_pos (by omega)]; exact ha
        exact List.mem_of_getElem? this
      rw [if_neg hne, ← List.getD_eq_getElem?_getD]
      exact at_get hd k (by omega) j a (by omega) ha
theorem at_all (h2 : (lst (fOf ps) 256).length = n) {a : Nat} (ha : a < n) : ∃ j, j < ps.length ∧ ps[j]? = some (a : Int) := by
  have _ := hps
  have hc : lst (fOf ps) 256 = lst (fOf ps) n := lst_cut 256 hn fun k h _ => by
    rw [Bool.eq_false_iff]
    intro q
    have := fOf_lt hin k q
    omega
  rw [hc] at h2
  have := (fOf_iff ps a).mp (lst_full n h2 a ha)
  obtain ⟨j, hj, e⟩ := List.mem_iff_getElem.mp this
  exact ⟨j, hj, by rw [List.getElem?_eq_getElem hj, e]⟩
theorem lin_same {d B : Nat → Nat → Bool} (hB : Tells d B) {E : List (Nat × Nat)} (hE : ∀ p, p ∈ E ↔ p.1 < p.2 ∧ p.2 < n ∧ edgeB d B p.1 p.2 = true) (h1 : ps.length = n) (h2 : (lst (fOf ps) 256).length = n) :
    linB E (atS n ps ps.length) = true ↔ ∀ i, i < ps.length → ∀ k, k < i → upP ps B i k := by
  have hd := (dist_end hps hn hin).mp (by rw [h1]; exact h2)
  have hat : ∀ (j a : Nat), ps[j]? = some ((a : Nat) : Int) → (atS n ps ps.length).getD a 0 = (j : Int) := fun j a h => at_get hps hn hin hd ps.length (Nat.le_refl _) j a (List.getElem?_eq_some_iff.mp h).1 h
  generalize atS n ps ps.length = s at *
  unfold linB
  rw [List.all_eq_true]
  have hok : ∀ p, linOk s p = true ↔ ¬ s.getD p.2 0 < s.getD p.1 0 := fun p => by unfold linOk; rw [Bool.not_eq_true', decide_eq_false_iff_not]
  constructor
  · intro h
    have key : ∀ g a b, b - a ≤ g → b < n → HB d a b → s.getD a 0 ≤ s.getD b 0 := by
      intro g
      induction g with
      | zero => intro a b hg _ hh; have := hh.lt; omega
      | succ g ih =>
        intro a b hg hb hh
        obtain ⟨m, m1, m2⟩ := edge_first hB hh
        have hlt := ((edgeB_iff d B a m).mp m1).1
        have hmb : m ≤ b := by
          rcases m2 with rfl | m2
          · exact Nat.le_refl _
          · have := m2.lt; omega
        have h3 := (hok (a, m)).mp (h (a, m) ((hE (a, m)).mpr ⟨hlt, by show m < n; omega, m1⟩))
        simp only at h3
        rcases m2 with rfl | m2
        · omega
        · have := ih m b (by omega) hb m2
          omega
    intro i hi k hk
    unfold upP
    obtain ⟨x, hx, hxm⟩ := get_lt ps i hi
    obtain ⟨y, hy, hym⟩ := get_lt ps k (by omega)
    obtain ⟨a, rfl⟩ := Int.eq_ofNat_of_zero_le (hin x hxm).1
    obtain ⟨b, rfl⟩ := Int.eq_ofNat_of_zero_le (hin y hym).1
    rw [List.getD_eq_getElem?_getD, List.getD_eq_getElem?_getD, hx, hy]
    show B a b = false
    rw [Bool.eq_false_iff]
    intro q
    have := key (b - a) a b (Nat.le_refl _) (by have := hin _ hym; omega) ((hB a b).mp q)
    rw [hat i a hx, hat k b hy] at this
    omega
  · rintro h ⟨a, b⟩ hp
    obtain ⟨e1, e2, e3⟩ := (hE (a, b)).mp hp
    simp only at e1 e2 e3
    rw [hok]
    simp only
    obtain ⟨i, hi, hx⟩ := at_all hps hn hin h2 (show a < n by omega)
    obtain ⟨k, hk, hy⟩ := at_all hps hn hin h2 e2
    rw [hat i a hx, hat k b hy]
    intro q
    have := h i hi k (by omega)
    unfold upP at this
    rw [List.getD_eq_getElem?_getD, List.getD_eq_getElem?_getD, hx, hy] at this
    have h5 : B a b = false := this
    rw [(hB a b).mpr (edgeB_hb hB e3)] at h5
    cases h5
end
end Go.Proofs.YtkadlopcomjonaaDoor.pg
/- Orders that keep what happens before what: CanonApplies, walked. -/
namespace Go.Proofs.YtkadlopcomjonaaDoor.pg
open Go.ChangeShapes Go.WideShapes Go.ChangeAt Go.RowKit Go.Shelf
set_option linter.unusedVariables false
set_option linter.unusedSimpArgs false
set_option maxRecDepth 100000
theorem atS_nn (n : Nat) (ps : List Int) : ∀ k a, 0 ≤ (atS n ps k).getD a 0
  | 0, a => by
    show 0 ≤ (List.replicate n (0 : Int)).getD a 0
    rw [List.getD_eq_getElem?_getD, List.getElem?_replicate]
    split <;> simp
  | k + 1, a => by
    have ih := atS_nn n ps k a
    show 0 ≤ ((atS n ps k).set (ps.getD k 0).toNat (k : Int)).getD a 0
    rw [List.getD_eq_getElem?_getD, List.getElem?_set]
    split
    · split
      · simp
      · simp
    · rw [← List.getD_eq_getElem?_getD]; exact ih
theorem atM_is {n : Nat} {ps : List Int} (hin : ∀ p ∈ ps, 0 ≤ p ∧ p < (n : Int)) : ∀ k, k ≤ ps.length → ∀ a, a < n → (atM n ps k).getD a 0 = if fOf (ps.take k) a = true then (atS n ps k).getD a 0 else -1
  | 0, _, a, ha => by
    have : fOf (ps.take 0) a = false := by simp [fOf]
    rw [this]
    show (List.replicate n (-1 : Int)).getD a 0 = _
    simp [List.getD_eq_getElem?_getD, List.getElem?_replicate, ha]
  | k + 1, hk, a, ha => by
    obtain ⟨x, hx, hxm⟩ := get_lt ps k (by omega)
    obtain ⟨b, rfl⟩ := Int.eq_ofNat_of_zero_le (hin x hxm).1
    have hb : b < n := by have := (hin _ hxm).2; omega
    have ih := atM_is hin k (by omega) a ha
    rw [← atM_more hx, ← atS_more hx, List.getD_eq_getElem?_getD, List.getD_eq_getElem?_getD, List.getElem?_set, List.getElem?_set]
    have hf : fOf (ps.take (k + 1)) a = true ↔ a = b ∨ fOf (ps.take k) a = true := by
      rw [fOf_iff, fOf_iff, List.take_add_one, hx]
      simp only [Option.toList_some, List.mem_append, List.mem_singleton]
      constructor
      · rintro (h | h)
        · exact .inr h
        · exact .inl (by omega)
      · rintro (h | h)
        · exact .inr (by omega)
        · exact .inl h
    by_cases e : b = a
    · subst e
      have q1 : b < (atM n ps k).length := by rw [atM_len]; exact hb
      have q2 : b < (atS n ps k).length := by rw [atS_len]; exact hb
      have q3 := hf.mpr (.inl rfl)
      simp only [q1, q2, q3, if_true]
    · rw [if_neg e, if_neg e, ← List.getD_eq_getElem?_getD, ← List.getD_eq_getElem?_getD, ih]
      have : fOf (ps.take (k + 1)) a = fOf (ps.take k) a := by
        rw [Bool.eq_iff_iff, hf]
        constructor
        · rintro (h | h)
          · exact absurd h.symm e
          · exact h
        · exact .inr
      rw [this]
theorem bad_iff {n : Nat} {ps : List Int} (hin : ∀ p ∈ ps, 0 ≤ p ∧ p < (n : Int)) (k : Nat) : badM n ps k ↔ dupP ps k := by
  constructor
  · rintro ⟨x, hx, q⟩
    have hm := hin x (List.mem_of_getElem? hx)
    have hk := (List.getElem?_eq_some_iff.mp hx).1
    rcases q with q | q | q
    · omega
    · omega
    · refine ⟨x, hx, ?_⟩
      rw [atM_is hin k (by omega) x.toNat (by omega)] at q
      split at q
      · assumption
      · omega
  · rintro ⟨x, hx, q⟩
    have hm := hin x (List.mem_of_getElem? hx)
    have hk := (List.getElem?_eq_some_iff.mp hx).1
    refine ⟨x, hx, .inr (.inr ?_)⟩
    rw [atM_is hin k (by omega) x.toNat (by omega), if_pos q]
    exact atS_nn _ _ _ _
section
variable {ps : List Int} {n : Nat} (hps : ps.length ≤ 256) (hn : n ≤ 256) (hin : ∀ p ∈ ps, 0 ≤ p ∧ p < (n : Int))
include hps hn hin
theorem keep_not {B : Nat → Nat → Bool} (h1 : ps.length = n) (h2 : (lst (fOf ps) 256).length ≠ n) : ¬ keepM n B ps := fun h => by
  apply h2
  rw [← h1]
  exact (dist_end hps hn hin).mpr fun j hj => h.1 j ((bad_iff hin j).mpr hj)
theorem keep_same {d B : Nat → Nat → Bool} (hB : Tells d B) {E : List (Nat × Nat)} (hE : ∀ p, p ∈ E ↔ p.1 < p.2 ∧ p.2 < n ∧ edgeB d B p.1 p.2 = true) (h1 : ps.length = n) (h2 : (lst (fOf ps) 256).length = n) : linB E (atS n ps ps.length) = true ↔ keepM n B ps := by
  have hd := (dist_end hps hn hin).mp (by rw [h1]; exact h2)
  have hat : ∀ a, a < n → (atM n ps ps.length).getD a 0 = (atS n ps ps.length).getD a 0 := fun a ha => by
    rw [atM_is hin ps.length (Nat.le_refl _) a ha, List.take_length, if_pos]
    obtain ⟨j, hj, e⟩ := at_all hps hn hin h2 ha
    exact (fOf_iff ps a).mpr (List.mem_of_getElem? e)
  unfold keepM
  generalize atS n ps ps.length = s at *
  unfold linB
  rw [List.all_eq_true]
  have hok : ∀ p, linOk s p = true ↔ ¬ s.getD p.2 0 < s.getD p.1 0 := fun p => by unfold linOk; rw [Bool.not_eq_true', decide_eq_false_iff_not]
  constructor
  · intro h
    have key : ∀ g a b, b - a ≤ g → b < n → HB d a b → s.getD a 0 ≤ s.getD b 0 := by
      intro g
      induction g with
      | zero => intro a b hg _ hh; have := hh.lt; omega
      | succ g ih =>
        intro a b hg hb hh
        obtain ⟨m, m1, m2⟩ := edge_first hB hh
        have hlt := ((edgeB_iff d B a m).mp m1).1
        have hmb : m ≤ b := by
          rcases m2 with rfl | m2
          · exact Nat.le_refl _
          · have := m2.lt; omega
        have h3 := (hok (a, m)).mp (h (a, m) ((hE (a, m)).mpr ⟨hlt, by show m < n; omega, m1⟩))
        simp only at h3
        rcases m2 with rfl | m2
        · omega
        · have := ih m b (by omega) hb m2
          omega
    refine ⟨fun k q => hd k ((bad_iff hin k).mp q), fun i j hi hj _ hb => ?_⟩
    rw [hat i hi, hat j hj]
    exact key (j - i) i j (Nat.le_refl _) hj ((hB i j).mp hb)
  · rintro ⟨_, h⟩ ⟨a, b⟩ hp
    obtain ⟨e1, e2, e3⟩ := (hE (a, b)).mp hp
    simp only at e1 e2 e3
    rw [hok]
    simp only
    have := h a b (by omega) e2 e1 ((hB a b).mpr (edgeB_hb hB e3))
    rw [hat a (by omega), hat b e2] at this
    omega
end
end Go.Proofs.YtkadlopcomjonaaDoor.pg
/- Events in another order: CanonApplies, walked. -/
namespace Go.Proofs.YtkadlopcomjonaaDoor.pg
open Go.ChangeShapes Go.WideShapes Go.ChangeAt Go.RowKit Go.Shelf
set_option linter.unusedVariables false
set_option linter.unusedSimpArgs false
set_option maxRecDepth 100000
abbrev IntsIn (w : World) (a : Option Addr) (cap : Nat) (l : List Int) : Prop := Rows w 1 a cap (l.map chCells)
section
variable {H : Type} {enc : TypeId × Value → H} {w : World} {base : Nat} {spare : Nat → Bool} {held : Bool}
theorem ints_sz {n : Nat} {a : Option Addr} {len cap : Nat} {y : DataW H × List MemPlace} (h : DataW.trod enc Tryd.prog w base spare held n 49 [.slice a len cap] = some y) (hs : Sz Tryd.prog 49 y.1) : ∃ l : List Int, l.length = len ∧ IntsIn w a cap l := by
  obtain ⟨l, rfl, h1, h2, h3⟩ := rows_sz (k := 1) 0 chCells I64 Tryd.underlying49 (by kernel_rfl) (by omega) (fun n cs y hl h _ => by
    match cs, hl, h with
    | [c0], _, h =>
      obtain ⟨z, rfl, b⟩ := int_in Tryd.underlying3 h
      exact ⟨z, rfl, b⟩) h hs
  exact ⟨l, rfl, h1⟩
end
theorem rows_nil26 (w : World) : Rows w 26 none 0 (([] : List Ev).map Ev.cells) := own_rows (own_nil_q w 0 0 26) (by simp)
section
variable (l : List Ev) (la : Option Addr) (lc : Nat) (ps : List Int) (pa : Option Addr) (pc : Nat) (w : World) (hl : Rows w 26 la lc (l.map Ev.cells)) (hp : Rows w 1 pa pc (ps.map chCells)) (hc : checkP l 0) (hlen : l.length ≤ 256) (R : Bool)
include hl hp hc hlen
end
end Go.Proofs.YtkadlopcomjonaaDoor.pg
