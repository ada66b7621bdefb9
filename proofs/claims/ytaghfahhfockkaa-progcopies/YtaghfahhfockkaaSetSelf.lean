/- What is there is stored: nothing changes. -/
import Derived.Test.YtaghfahhfockkaaPg
namespace Go.Proofs.Ytaghfahhfockkaa.pg
set_option linter.unusedVariables false
theorem set_in_self {c : Array Value} {o : Nat} {v : Value} (h : c[o]? = some v) : c.setIfInBounds o v = c := by
  apply Array.ext_getElem?
  intro k
  by_cases hk : o = k
  · subst hk
    have := (Array.getElem?_eq_some_iff.mp h).1
    rw [Array.getElem?_setIfInBounds_self_of_lt this, h]
  · rw [Array.getElem?_setIfInBounds_ne hk]
theorem setCell_self {w : World} {b o : Nat} {v : Value} (h : w.cell? ⟨b, o, none⟩ = some v) : w.setCell ⟨b, o, none⟩ v = w := by
  have hh : (w.setCell ⟨b, o, none⟩ v).heap = w.heap := by
    apply Array.ext_getElem?
    intro k
    by_cases hk : k = b
    · subst hk
      rw [World.cell?] at h
      simp only [World.setCell, Array.getElem?_modify]
      cases hb : w.heap[k]? with
      | none => simp
      | some ob =>
        simp only [hb] at h
        cases ob <;> simp_all [set_in_self]
    · simp only [World.setCell]
      rw [Array.getElem?_modify]
      simp [show ¬ b = k from fun q => hk q.symm]
  have : w.setCell ⟨b, o, none⟩ v = { w with heap := (w.setCell ⟨b, o, none⟩ v).heap } := rfl
  rw [this, hh]
end Go.Proofs.Ytaghfahhfockkaa.pg
