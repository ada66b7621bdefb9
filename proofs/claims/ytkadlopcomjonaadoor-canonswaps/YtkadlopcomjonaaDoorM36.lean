/- The document's own look at a list of places. -/
import Derived.Test.YtkadlopcomjonaaDoorM22
import Derived.Test.YtkadlopcomjonaaDoorM30
import Derived.Test.YtkadlopcomjonaaDoorM31
import Derived.Test.YtkadlopcomjonaaDoorM32
namespace Go.Proofs.YtkadlopcomjonaaDoor.pg
open Go.ChangeShapes Go.WideShapes Go.ChangeAt Go.RowKit Go.Shelf
set_option linter.unusedVariables false
set_option linter.unusedSimpArgs false
set_option maxRecDepth 100000
attribute [local go_sem ↓] Go.wp_at_zero Go.wp_at_succ
def plBad (n : Nat) (ps : List Int) (al : Bool) (k : Nat) : Prop := ∃ x, ps[k]? = some x ∧ (¬ (0 ≤ x ∧ x < (n : Int)) ∨ (al = true ∧ fOf (ps.take k) x.toNat = true))
def plR (n : Nat) (ps : List Int) (al : Bool) (c : Int) : Prop :=
  (256 < ps.length ∧ c = 2) ∨ (ps.length ≤ 256 ∧ ((∃ k, plBad n ps al k) ∨ (al = true ∧ ps.length ≠ n)) ∧ c = 1) ∨ (ps.length ≤ 256 ∧ (∀ k, ¬ plBad n ps al k) ∧ (al = true → ps.length = n) ∧ c = 0)
/-- A block of bools. -/
structure BoB (w wr : World) (A n : Nat) (f : Nat → Bool) : Prop where
  a : wr.heap[A]? = some (.cells (boolRow n f) 4)
  b : Below w.heap.size w wr
  l : w.heap.size ≤ A
theorem BoB.cell {w wr : World} {A n : Nat} {f : Nat → Bool} (h : BoB w wr A n f) {j : Nat} (hj : j < n) : wr.cell? ⟨A, j, none⟩ = some (.bool (f j)) ∧ wr.frozen? ⟨A, j, none⟩ = false :=
  ⟨cell_of h.a (boolRow_at hj), frozen_of_row _ _ _ _ _ h.a⟩
theorem BoB.put {w wr : World} {A n : Nat} {f g : Nat → Bool} (h : BoB w wr A n f) (j : Nat) (hg : ∀ b, (if b = j then true else f b) = g b) : BoB w (wr.setCell ⟨A, j, none⟩ (.bool true)) A n g := by
  rw [setCell_eq_setRow wr A j _ _ _ _ h.a]
  refine ⟨?_, below_setRow h.b h.l _, h.l⟩
  rw [setRow_heap wr A _ _ _ _ h.a, boolRow_set, show (fun b => if b = j then true else f b) = g from funext hg]
theorem infoBo : (Tryd.prog.info? 4).map (fun i => (i.zero, i.size, i.bytes)) = some (some (.bool false), 1, 1) := by kernel_rfl
theorem plR_bad {n : Nat} {ps : List Int} {al : Bool} {c : Int} (h : plR n ps al c) (h2 : ps.length ≤ 256) {k : Nat} (hb : plBad n ps al k) : c = 1 := by
  rcases h with ⟨h, _⟩ | ⟨_, _, h⟩ | ⟨_, h, _⟩
  · omega
  · exact h
  · exact absurd hb (h k)
end Go.Proofs.YtkadlopcomjonaaDoor.pg
/- The document's own Closed and Cut. -/
namespace Go.Proofs.YtkadlopcomjonaaDoor.pg
open Go.ChangeShapes Go.WideShapes Go.ChangeAt Go.RowKit Go.Shelf
set_option linter.unusedVariables false
set_option linter.unusedSimpArgs false
set_option maxRecDepth 100000
attribute [local go_sem ↓] Go.wp_at_zero Go.wp_at_succ
def inTo (ps : List Int) (B : Nat → Nat → Bool) (i k : Nat) : Bool := (ps.take k).any fun x => ((i : Int) == x) || B i x.toNat
theorem inTo_more {ps : List Int} {B : Nat → Nat → Bool} {i k a : Nat} (h : ps[k]? = some (a : Int)) : inTo ps B i (k + 1) = (inTo ps B i k || (((i : Int) == (a : Int)) || B i a)) := by
  unfold inTo
  rw [take_one ps k _ h, List.any_append]
  simp
theorem plR_c {n : Nat} {ps : List Int} {al : Bool} {c : Int} (h : plR n ps al c) : c = 2 ∨ c = 1 ∨ c = 0 := by
  rcases h with ⟨_, h⟩ | ⟨_, _, h⟩ | ⟨_, _, _, h⟩ <;> simp [h]
end Go.Proofs.YtkadlopcomjonaaDoor.pg
/- The document's own Cut and Linear; Linear of a list that is no order. -/
namespace Go.Proofs.YtkadlopcomjonaaDoor.pg
open Go.ChangeShapes Go.WideShapes Go.ChangeAt Go.RowKit Go.Shelf
set_option linter.unusedVariables false
set_option linter.unusedSimpArgs false
set_option maxRecDepth 100000
attribute [local go_sem ↓] Go.wp_at_zero Go.wp_at_succ
def anyJ (ps : List Int) (y : Int) (k : Nat) : Bool := (ps.take k).any fun x => y == x
theorem anyJ_more {ps : List Int} {x y : Int} {k : Nat} (h : ps[k]? = some x) : anyJ ps y (k + 1) = (anyJ ps y k || y == x) := by
  unfold anyJ
  rw [take_one ps k x h, List.any_append]
  simp
/-- Nothing that happens before stands behind. -/
def upP (ps : List Int) (B : Nat → Nat → Bool) (i k : Nat) : Prop := B (ps.getD i 0).toNat (ps.getD k 0).toNat = false
end Go.Proofs.YtkadlopcomjonaaDoor.pg
