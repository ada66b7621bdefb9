/- OrderByClocks, whatever is asked. -/
import Derived.Test.YtbajfgllgfmnfaaBc1
namespace Go.Proofs.Ytbajfgllgfmnfaa.pg
open Go.ChangeShapes Go.WideShapes Go.ChangeAt Go.RowKit Go.Shelf
set_option linter.unusedVariables false
theorem byclocks_any (l : List Ev) (la : Option Addr) (lc : Nat) (i j : Int) (w : World) (hl : EvsIn w la lc l) (_ : (Lit.int .i64 i).wf = true) (_ : (Lit.int .i64 j).wf = true) : Calls Try.prog 6 #[.slice la l.length lc, .int .i64 i, .int .i64 j] w fun e w' => e = .returned (.bool true) ∧ Below w.heap.size w w' := by
  by_cases h : checkP l 0 ∧ (0 ≤ i ∧ i < l.length) ∧ (0 ≤ j ∧ j < l.length)
  · obtain ⟨hc, ⟨i0, i1⟩, j0, j1⟩ := h
    obtain ⟨a, rfl⟩ := Int.eq_ofNat_of_zero_le i0
    obtain ⟨b, rfl⟩ := Int.eq_ofNat_of_zero_le j0
    obtain ⟨hlen, hrt⟩ : l.length ≤ 256 ∧ ∀ x ∈ l, rightP x := by rcases hc with ⟨_, q⟩ | ⟨_, _, q⟩ | ⟨a, b, _⟩ <;> first | exact ⟨a, b⟩ | omega
    exact by_in l la lc a b w hl.1 hlen hrt (by omega) (by omega)
  · exact by_out l la lc i j w hl.1 h
end Go.Proofs.Ytbajfgllgfmnfaa.pg
