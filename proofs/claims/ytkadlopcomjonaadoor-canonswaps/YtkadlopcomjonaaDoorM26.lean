/- The edges, sorted. -/
import Derived.Test.YtkadlopcomjonaaDoorM24
import Derived.Shelf.SlSortCmp.WholeK
import Derived.Test.YtkadlopcomjonaaDoorShelf
import Derived.Test.YtkadlopcomjonaaDoorM18
namespace Go.Proofs.YtkadlopcomjonaaDoor.pg
open Go.ChangeShapes Go.WideShapes Go.ChangeAt Go.RowKit Go.Shelf
set_option linter.unusedVariables false
set_option linter.unusedSimpArgs false
set_option maxRecDepth 100000
theorem cmp2_lt (x y : Nat × Nat) : Go.Proofs.ltOf cmp2 x y = decide (x.1 < y.1 ∨ x.1 = y.1 ∧ x.2 < y.2) := by
  unfold Go.Proofs.ltOf cmp2
  rcases cmpP_val x.1 y.1 with ⟨h, q⟩ | ⟨h, q⟩ | ⟨h, q⟩ <;> rcases cmpP_val x.2 y.2 with ⟨h2, q2⟩ | ⟨h2, q2⟩ | ⟨h2, q2⟩ <;> simp [h, h2] <;> omega
theorem cmp2_swo : Go.Sort.SWO (Go.Proofs.ltOf cmp2) where
  irrefl x := by rw [cmp2_lt]; simp
  trans x y z h1 h2 := by rw [cmp2_lt] at *; simp at *; omega
  ntrans x y z h1 h2 := by rw [cmp2_lt] at *; simp at *; omega
end Go.Proofs.YtkadlopcomjonaaDoor.pg
/- What sorting leaves of the edges. -/
namespace Go.Proofs.YtkadlopcomjonaaDoor.pg
open Go.ChangeShapes Go.WideShapes Go.ChangeAt Go.RowKit Go.Shelf
set_option linter.unusedVariables false
set_option linter.unusedSimpArgs false
set_option maxRecDepth 100000
theorem own_holds {w : World} {lo g cap : Nat} {E : List (Nat × Nat)} (h : OwnL w lo 122 2 (some ⟨g, 0, none⟩) cap (E.map edg)) : Go.Sort.HoldsK edg 2 w g 0 E.toArray := by
  intro t ht
  rw [Go.Sort.size_flatK] at ht
  have hlt : t < E.length * 2 := by simpa using ht
  rw [Go.Sort.get_flatK _ _ _ _ ht, Nat.zero_add]
  have hi : t / 2 < E.length := by omega
  have hc := World.ownsRow.cellAt h t (by rw [List.length_map]; exact hlt)
  have ht2 : t = t / 2 * 2 + t % 2 := by omega
  constructor
  · rw [hc]
    conv => lhs; rw [ht2]
    rw [flatten_at (k := 2) (E.map edg) (fun row hr => by rw [List.mem_map] at hr; obtain ⟨y, _, rfl⟩ := hr; rfl) (t / 2) (edg E[t / 2]) (by rw [List.getElem?_map, List.getElem?_eq_getElem hi]; rfl) (t % 2) (by omega)]
    have e1 : E.toArray[t / 2]! = E[t / 2] := by simp [hi]
    rw [e1]
    have h2 : t % 2 < (edg E[t / 2]).length := by show t % 2 < 2; omega
    have h3 : (edg E[t / 2])[t % 2]! = (edg E[t / 2])[t % 2]'h2 := getElem!_pos (edg E[t / 2]) (t % 2) h2
    rw [List.getElem?_eq_getElem h2, h3]
    rfl
  · rcases h.2 with ⟨h1, _⟩ | ⟨g', cap', cur, h1, _, hg, _⟩
    · simp only [Value.slice.injEq] at h1
      cases h1.1
    · simp only [Value.slice.injEq, Option.some.injEq, Addr.mk.injEq, and_true, true_and] at h1
      rw [h1.1]
      exact frozen_of_row _ _ _ _ _ hg
/-- By the first place, then the second one. -/
def lex (x y : Nat × Nat) : Prop := x.1 < y.1 ∨ x.1 = y.1 ∧ x.2 ≤ y.2
end Go.Proofs.YtkadlopcomjonaaDoor.pg
/- Edges of package order. -/
namespace Go.Proofs.YtkadlopcomjonaaDoor.pg
open Go.ChangeShapes Go.WideShapes Go.ChangeAt Go.RowKit Go.Shelf
set_option linter.unusedVariables false
set_option linter.unusedSimpArgs false
set_option maxRecDepth 100000
attribute [local go_sem ↓] Go.wp_at_zero Go.wp_at_succ
theorem own_nil_is {w : World} {lo e k cap : Nat} {L : List (List Value)} (h : OwnL w lo e k none cap L) : L = [] ∧ cap = 0 := by
  rcases own_block h with ⟨_, h1, h2⟩ | ⟨g, h1, _⟩
  · exact ⟨List.length_eq_zero_iff.mp h1, h2⟩
  · cases h1
end Go.Proofs.YtkadlopcomjonaaDoor.pg
