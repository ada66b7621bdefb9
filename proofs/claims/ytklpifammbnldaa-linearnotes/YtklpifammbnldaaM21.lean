/- Clocks and Before of package order, whole. -/
import Derived.Test.YtklpifammbnldaaM20
import Derived.Lib.MinMax
import Derived.Test.YtklpifammbnldaaM5
namespace Go.Proofs.Ytklpifammbnldaa.pg
open Go.ChangeShapes Go.WideShapes Go.ChangeAt Go.RowKit Go.Shelf
set_option linter.unusedVariables false
set_option linter.unusedSimpArgs false
set_option maxRecDepth 100000
attribute [local go_sem ↓] Go.wp_at_zero Go.wp_at_succ
theorem rows_nil1 (w : World) : Rows w 1 none 0 (([] : List Int).map chCells) := ⟨by simp, by omega, fun _ => ⟨rfl, rfl⟩, .inl rfl⟩
end Go.Proofs.Ytklpifammbnldaa.pg
/- Height of package order. -/
namespace Go.Proofs.Ytklpifammbnldaa.pg
open Go.ChangeShapes Go.WideShapes Go.ChangeAt Go.RowKit Go.Shelf
set_option linter.unusedVariables false
set_option linter.unusedSimpArgs false
set_option maxRecDepth 100000
attribute [local go_sem ↓] Go.wp_at_zero Go.wp_at_succ
/-- One edge more: how many stand ahead of its later end, and the height. -/
def hstep (s : List Int × Int) (p : Nat × Nat) : List Int × Int := (s.1.set p.2 (max (s.1.getD p.2 0) (s.1.getD p.1 0 + 1)), max s.2 (max (s.1.getD p.2 0) (s.1.getD p.1 0 + 1) + 1))
def hfold (n : Nat) (E : List (Nat × Nat)) : List Int × Int := E.foldl hstep (List.replicate n 0, min 1 n)
theorem hfold_more (n : Nat) (E : List (Nat × Nat)) (p : Nat × Nat) : hfold n (E ++ [p]) = hstep (hfold n E) p := by unfold hfold; rw [List.foldl_append]; rfl
theorem told_pairs (ev : Nat → Ev) (cf : Nat → Ck) (j : Nat) : ∀ (n : Nat) (pre : List { i : Nat // i < j }), pre.length = n → ∀ p ∈ (told ev cf j pre).2, p.1 < j ∧ p.2 = j
  | 0, pre, h => by
    have : pre = [] := List.length_eq_zero_iff.mp h
    subst this
    intro p hp
    simp [told] at hp
  | n + 1, pre, h => by
    rcases List.eq_nil_or_concat pre with rfl | ⟨q, x, rfl⟩
    · simp at h
    · rw [List.concat_eq_append] at h ⊢
      rw [List.length_append, List.length_singleton] at h
      have h1 := told_pairs ev cf j n q (by omega)
      rw [told_more]
      unfold stp
      split
      · exact h1
      · intro p hp
        rw [List.mem_append, List.mem_singleton] at hp
        rcases hp with hp | rfl
        · exact h1 p hp
        · exact ⟨x.2, rfl⟩
theorem rel_pairs (ev : Nat → Ev) : ∀ j, ∀ p ∈ (rel ev j).2, p.1 < p.2 ∧ p.2 < j
  | 0, p, hp => by simp [rel] at hp
  | j + 1, p, hp => by
    rw [rel, List.mem_append] at hp
    rcases hp with hp | hp
    · have := rel_pairs ev j p hp; omega
    · have := told_pairs ev _ j _ _ rfl p hp; omega
/-- Bounds on what the loop knows. -/
def hok (n k : Nat) (s : List Int × Int) : Prop := s.1.length = n ∧ (∀ v ∈ s.1, 0 ≤ v ∧ v ≤ k) ∧ 0 ≤ s.2 ∧ s.2 ≤ (k : Int) + 1
theorem getD_in {s : List Int} {k : Nat} (h : ∀ v ∈ s, 0 ≤ v ∧ v ≤ (k : Int)) (i : Nat) : 0 ≤ s.getD i 0 ∧ s.getD i 0 ≤ k := by
  rw [List.getD_eq_getElem?_getD]
  cases q : s[i]? with
  | none => simp
  | some v => exact h v (List.mem_of_getElem? q)
theorem hok_step {n k : Nat} {s : List Int × Int} (h : hok n k s) (p : Nat × Nat) : hok n (k + 1) (hstep s p) := by
  obtain ⟨h1, h2, h3, h4⟩ := h
  have a := getD_in h2 p.1
  have b := getD_in h2 p.2
  have m : 0 ≤ max (s.1.getD p.2 0) (s.1.getD p.1 0 + 1) ∧ max (s.1.getD p.2 0) (s.1.getD p.1 0 + 1) ≤ (k : Int) + 1 := by rw [Int.max_def]; split <;> omega
  refine ⟨by simp [hstep, h1], fun v hv => ?_, ?_, ?_⟩
  · rcases List.mem_or_eq_of_mem_set hv with q | q
    · have := h2 v q; omega
    · rw [q]; omega
  · show 0 ≤ max s.2 _
    rw [Int.max_def]; split <;> omega
  · show max s.2 _ ≤ _
    rw [Int.max_def]; split <;> omega
theorem hfold_ok (n : Nat) (E : List (Nat × Nat)) : ∀ k, k ≤ E.length → hok n k (hfold n (E.take k))
  | 0, _ => ⟨by simp [hfold], fun v hv => by simp [hfold] at hv; omega, by simp [hfold]; omega, by simp [hfold]; omega⟩
  | k + 1, h => by
    rw [take_one E k E[k] (List.getElem?_eq_getElem (by omega)), hfold_more]
    exact hok_step (hfold_ok n E k (by omega)) _
theorem ix_int (A n : Nat) (j : Nat) (h : j < n) : ∀ wx, (Instr.indexAt 26 (.slice (some ⟨A, 0, none⟩) n n) (.int .i64 (j : Int))).run Try.prog wx = .ok (.pointer (some ⟨A, j, none⟩)) wx := by
  intro wx
  have u := Try.underlying26
  have z := Try.sizeOf3
  have q1 : (j : Int) < n := by omega
  have q2 : ¬ (j : Int) < 0 := by omega
  simp [Instr.indexAt, run_underlying u, asIntOf, go_sem, z, q1, q2, h]
abbrev objInts (s : List Int) : Obj := .cells (s.map fun v => Value.int .i64 v).toArray 3
end Go.Proofs.Ytklpifammbnldaa.pg
/- A matrix of truths: the block of its rows, and each row's block. -/
namespace Go.Proofs.Ytklpifammbnldaa.pg
open Go.ChangeShapes Go.WideShapes Go.ChangeAt Go.RowKit Go.Shelf
set_option linter.unusedVariables false
set_option linter.unusedSimpArgs false
set_option maxRecDepth 100000
def boolRow (n : Nat) (f : Nat → Bool) : Array Value := ((List.range n).map fun j => Value.bool (f j)).toArray
def sliceRow (n k : Nat) (rb : Nat → Nat) : Array Value := ((List.range n).map fun i => if i < k then Value.slice (some ⟨rb i, 0, none⟩) n n else Value.slice none 0 0).toArray
theorem boolRow_at {n : Nat} {f : Nat → Bool} {j : Nat} (h : j < n) : (boolRow n f)[j]? = some (.bool (f j)) := by simp [boolRow, h]
theorem sliceRow_at {n k : Nat} {rb : Nat → Nat} {i : Nat} (h : i < n) : (sliceRow n k rb)[i]? = some (if i < k then Value.slice (some ⟨rb i, 0, none⟩) n n else Value.slice none 0 0) := by simp [sliceRow, h]
theorem boolRow_set {n : Nat} {f : Nat → Bool} {j : Nat} (v : Bool) : (boolRow n f).setIfInBounds j (.bool v) = boolRow n (fun b => if b = j then v else f b) := by
  apply Array.ext'
  simp only [boolRow, Array.toList_setIfInBounds, List.toList_toArray]
  apply List.ext_getElem?
  intro k
  rw [List.getElem?_set]
  simp only [List.length_map, List.length_range, List.getElem?_map]
  by_cases c : j = k
  · subst c
    by_cases h : j < n
    · simp [h, List.getElem?_range]
    · simp [h, List.getElem?_range]
  · rw [if_neg c]
    by_cases h : k < n
    · simp [List.getElem?_range, h, Ne.symm c]
    · simp [List.getElem?_range, h]
theorem sliceRow_set {n k : Nat} {rb : Nat → Nat} {b : Nat} (hk : k < n) (hb : rb k = b) : (sliceRow n k rb).setIfInBounds k (.slice (some ⟨b, 0, none⟩) n n) = sliceRow n (k + 1) rb := by
  subst hb
  apply Array.ext'
  simp only [sliceRow, Array.toList_setIfInBounds, List.toList_toArray]
  apply List.ext_getElem?
  intro q
  rw [List.getElem?_set]
  simp only [List.length_map, List.length_range, List.getElem?_map]
  by_cases c : k = q
  · subst c
    simp [hk, List.getElem?_range]
  · rw [if_neg c]
    by_cases h : q < n
    · simp only [List.getElem?_range h, Option.map_some]
      by_cases h2 : q < k
      · rw [if_pos h2, if_pos (by omega)]
      · rw [if_neg h2, if_neg (by omega)]
    · simp [List.getElem?_range, h]
theorem boolRow_new (n : Nat) : (List.replicate n (Value.bool false)).toArray = boolRow n fun _ => false := by
  apply Array.ext'
  simp only [boolRow, List.toList_toArray]
  apply List.ext_getElem?
  intro k
  by_cases c : k < n
  · simp [c, List.getElem?_range, List.getElem?_replicate]
  · simp [c, List.getElem?_range, List.getElem?_replicate]
theorem infoBl : (Try.prog.info? 4).map (fun i => (i.zero, i.size, i.bytes)) = some (some (.bool false), 1, 1) := by kernel_rfl
end Go.Proofs.Ytklpifammbnldaa.pg
