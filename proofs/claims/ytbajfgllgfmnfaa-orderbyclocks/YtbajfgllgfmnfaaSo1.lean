/- The edges, sorted. -/
import Derived.Test.YtbajfgllgfmnfaaSo0
import Derived.Shelf.SlSortCmp.WholeK
import Derived.Shelf.Lay
import Derived.Ground.SlsfProg
namespace Go.Proofs
open Go.Shelf Go.RowKit Go.Lib Go.Sort
shelf_lay_g SlLaysF0.n6 Slsf 6 at Try 33 as Try.edgeSort
end Go.Proofs
namespace Go.Proofs.Ytbajfgllgfmnfaa.pg
open Go.ChangeShapes Go.WideShapes Go.ChangeAt Go.RowKit Go.Shelf
set_option linter.unusedVariables false
set_option linter.unusedSimpArgs false
set_option maxRecDepth 100000
theorem cmp2_lt (x y : Nat × Nat) : Go.Proofs.ltOf cmp2 x y = decide (x.1 < y.1 ∨ x.1 = y.1 ∧ x.2 < y.2) := by
  unfold Go.Proofs.ltOf cmp2
  rcases cmpP_val x.1 y.1 with ⟨h, q⟩ | ⟨h, q⟩ | ⟨h, q⟩ <;> rcases cmpP_val x.2 y.2 with ⟨h2, q2⟩ | ⟨h2, q2⟩ | ⟨h2, q2⟩ <;> simp [h, h2] <;> omega
theorem cmp2_swo : Go.Sort.SWO (Go.Proofs.ltOf cmp2) where
  irrefl x := by rw [cmp2_lt]; simp
  trans x y z h1 h2 := by rw [cmp2_lt] at *; simp at *; omega
  ntrans x y z h1 h2 := by rw [cmp2_lt] at *; simp at *; omega
theorem cmpE_lays (blk off size : Nat) (w : World) : CmpLays Try.prog 34 #[] edg 2 cmp2 blk off size w :=
  fun m os dk hs x y => (cmpE_any x y _).mono fun e w' ⟨he, q, hq⟩ => ⟨he, q, #[objEdge x, objEdge y], by rw [hq, Go.Sort.alloc_eq_grow, Go.Sort.alloc_eq_grow, Go.Sort.grow_grow]; rfl⟩
end Go.Proofs.Ytbajfgllgfmnfaa.pg
