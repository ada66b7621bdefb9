/- Clocks and Before of package order. -/
import Derived.Test.YtdfnmlcpimiboaaM16
import Derived.Lib.MinMax
import Derived.Test.YtdfnmlcpimiboaaM15
namespace Go.Proofs.Ytdfnmlcpimiboaa.pg
open Go.ChangeShapes Go.WideShapes Go.ChangeAt Go.RowKit Go.Shelf
set_option linter.unusedVariables false
set_option linter.unusedSimpArgs false
set_option maxRecDepth 100000
attribute [local go_sem ↓] Go.wp_at_zero Go.wp_at_succ
abbrev relZ : Value := relV none 0 0 none 0 0 none 0 0
/-- Whether a place happens before another one, by the clocks. -/
def befK (C : List Ck) (l : List Ev) (i j : Nat) : Bool := decide (i < j) && decide ((C.getD i zeroK).of (evf l i).go.toNat ≤ (C.getD j zeroK).of (evf l i).go.toNat)
end Go.Proofs.Ytdfnmlcpimiboaa.pg
/- Clocks and Before of package order, whole. -/
namespace Go.Proofs.Ytdfnmlcpimiboaa.pg
open Go.ChangeShapes Go.WideShapes Go.ChangeAt Go.RowKit Go.Shelf
set_option linter.unusedVariables false
set_option linter.unusedSimpArgs false
set_option maxRecDepth 100000
attribute [local go_sem ↓] Go.wp_at_zero Go.wp_at_succ
theorem rows_nil1 (w : World) : Rows w 1 none 0 (([] : List Int).map chCells) := ⟨by simp, by omega, fun _ => ⟨rfl, rfl⟩, .inl rfl⟩
end Go.Proofs.Ytdfnmlcpimiboaa.pg
/- Height of package order. -/
namespace Go.Proofs.Ytdfnmlcpimiboaa.pg
open Go.ChangeShapes Go.WideShapes Go.ChangeAt Go.RowKit Go.Shelf
set_option linter.unusedVariables false
set_option linter.unusedSimpArgs false
set_option maxRecDepth 100000
attribute [local go_sem ↓] Go.wp_at_zero Go.wp_at_succ
/-- One edge more: how many stand ahead of its later end, and the height. -/
def hstep (s : List Int × Int) (p : Nat × Nat) : List Int × Int := (s.1.set p.2 (max (s.1.getD p.2 0) (s.1.getD p.1 0 + 1)), max s.2 (max (s.1.getD p.2 0) (s.1.getD p.1 0 + 1) + 1))
def hfold (n : Nat) (E : List (Nat × Nat)) : List Int × Int := E.foldl hstep (List.replicate n 0, min 1 n)
theorem hfold_more (n : Nat) (E : List (Nat × Nat)) (p : Nat × Nat) : hfold n (E ++ [p]) = hstep (hfold n E) p := by unfold hfold; rw [List.foldl_append]; rfl
theorem told_pairs (ev : Nat → Ev) (cf : Nat → Ck) (j : Nat) : ∀ (n : Nat) (pre : List { i : Nat // i < j }), pre.length = n → ∀ p ∈ (told ev cf j pre).2, p.1 < j ∧ p.2 = j
  | 0, pre, h => by
    have : pre = [] := List.length_eq_zero_iff.mp h
    subst this
    intro p hp
    simp [told] at hp
  | n + 1, pre, h => by
    rcases List.eq_nil_or_concat pre with rfl | ⟨q, x, rfl⟩
    · simp at h
    · rw [List.concat_eq_append] at h ⊢
      rw [List.length_append, List.length_singleton] at h
      have h1 := told_pairs ev cf j n q (by omega)
      rw [told_more]
      unfold stp
      split
      · exact h1
      · intro p hp
        rw [List.mem_append, List.mem_singleton] at hp
        rcases hp with hp | rfl
        · exact h1 p hp
        · exact ⟨x.2, rfl⟩
theorem rel_pairs (ev : Nat → Ev) : ∀ j, ∀ p ∈ (rel ev j).2, p.1 < p.2 ∧ p.2 < j
  | 0, p, hp => by simp [rel] at hp
  | j + 1, p, hp => by
    rw [rel, List.mem_append] at hp
    rcases hp with hp | hp
    · have := rel_pairs ev j p hp; omega
    · have := told_pairs ev _ j _ _ rfl p hp; omega
/-- Bounds on what the loop knows. -/
def hok (n k : Nat) (s : List Int × Int) : Prop := s.1.length = n ∧ (∀ v ∈ s.1, 0 ≤ v ∧ v ≤ k) ∧ 0 ≤ s.2 ∧ s.2 ≤ (k : Int) + 1
theorem getD_in {s : List Int} {k : Nat} (h : ∀ v ∈ s, 0 ≤ v ∧ v ≤ (k : Int)) (i : Nat) : 0 ≤ s.getD i 0 ∧ s.getD i 0 ≤ k := by
  rw [List.getD_eq_getElem?_getD]
  cases q : s[i]? with
  | none => simp
  | some v => exact h v (List.mem_of_getElem? q)
theorem hok_step {n k : Nat} {s : List Int × Int} (h : hok n k s) (p : Nat × Nat) : hok n (k + 1) (hstep s p) := by
  obtain ⟨h1, h2, h3, h4⟩ := h
  have a := getD_in h2 p.1
  have b := getD_in h2 p.2
  have m : 0 ≤ max (s.1.getD p.2 0) (s.1.getD p.1 0 + 1) ∧ max (s.1.getD p.2 0) (s.1.getD p.1 0 + 1) ≤ (k : Int) + 1 := by rw [Int.max_def]; split <;> omega
  refine ⟨by simp [hstep, h1], fun v hv => ?_, ?_, ?_⟩
  · rcases List.mem_or_eq_of_mem_set hv with q | q
    · have := h2 v q; omega
    · rw [q]; omega
  · show 0 ≤ max s.2 _
    rw [Int.max_def]; split <;> omega
  · show max s.2 _ ≤ _
    rw [Int.max_def]; split <;> omega
theorem hfold_ok (n : Nat) (E : List (Nat × Nat)) : ∀ k, k ≤ E.length → hok n k (hfold n (E.take k))
  | 0, _ => ⟨by simp [hfold], fun v hv => by simp [hfold] at hv; omega, by simp [hfold]; omega, by simp [hfold]; omega⟩
  | k + 1, h => by
    rw [take_one E k E[k] (List.getElem?_eq_getElem (by omega)), hfold_more]
    exact hok_step (hfold_ok n E k (by omega)) _
theorem ix_int (A n : Nat) (j : Nat) (h : j < n) : ∀ wx, (Instr.indexAt 29 (.slice (some ⟨A, 0, none⟩) n n) (.int .i64 (j : Int))).run Try.prog wx = .ok (.pointer (some ⟨A, j, none⟩)) wx := by
  intro wx
  have u := Try.underlying29
  have z := Try.sizeOf3
  have q1 : (j : Int) < n := by omega
  have q2 : ¬ (j : Int) < 0 := by omega
  simp [Instr.indexAt, run_underlying u, asIntOf, go_sem, z, q1, q2, h]
abbrev objInts (s : List Int) : Obj := .cells (s.map fun v => Value.int .i64 v).toArray 3
end Go.Proofs.Ytdfnmlcpimiboaa.pg
