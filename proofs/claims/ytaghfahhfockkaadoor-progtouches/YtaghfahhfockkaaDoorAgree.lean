/- Where package prog's order and the document's own agree on what is right. -/
import Derived.Test.YtaghfahhfockkaaDoorChkB
namespace Go.Proofs.YtaghfahhfockkaaDoor.pg
set_option linter.unusedVariables false
theorem par_nonneg (P : Pr) (h : ∀ f ∈ P.fns, 0 ≤ f.params) (b : Int) : 0 ≤ P.par b := by
  unfold Pr.par
  split
  · rename_i f hf
    exact h f (List.mem_of_getElem? hf)
  · exact Int.le_refl 0
theorem room_iff (k c regs : Int) (h : 0 ≤ k) : roomP k c regs ↔ roomR k c regs := by
  unfold roomP roomR
  by_cases h0 : k = 0
  · subst h0
    simp
  · rw [if_neg h0]
    by_cases hc : c < 0
    · rw [if_pos hc]; constructor
      · exact fun q => q.elim
      · intro q; exact q (.inr ⟨by omega, .inl hc⟩)
    · rw [if_neg hc]; constructor
      · intro q; rintro (q' | q') <;> omega
      · intro q
        apply Classical.byContradiction
        intro q'
        exact q (.inr ⟨by omega, .inr (by omega)⟩)
theorem opndE_congr {r r' : Prop} [Decidable r] [Decidable r'] (h : r ↔ r') (P : Pr) (f : Fn) (l x : Int) : opndE r P f l x = opndE r' P f l x := by
  unfold opndE
  by_cases q : r
  · rw [if_pos q, if_pos (h.mp q)]
  · rw [if_neg q, if_neg (fun t => q (h.mpr t))]
theorem insE_congr {r r' : Prop} [Decidable r] [Decidable r'] (h : r ↔ r') (P : Pr) (f : Fn) (i : Ins) : insE r P f i = insE r' P f i := by
  unfold insE
  rw [opndE_congr h, opndE_congr h, opndE_congr h, opndE_congr h]
theorem ins_eq (P : Pr) (h : ∀ f ∈ P.fns, 0 ≤ f.params) (f : Fn) (i : Ins) : insP P f i = insR P f i := insE_congr (room_iff _ _ _ (par_nonneg P h i.b)) P f i
theorem fnE_congr {ins ins' : Pr → Fn → Ins → Int} {P : Pr} (h : ∀ f i, ins P f i = ins' P f i) (n : Nat) (f : Fn) : fnE ins P n f = fnE ins' P n f := by
  have : ins P f = ins' P f := funext fun i => h f i
  unfold fnE; rw [this]
theorem fnsE_congr {ins ins' : Pr → Fn → Ins → Int} {P : Pr} (h : ∀ f i, ins P f i = ins' P f i) (l : List Fn) (n : Nat) : fnsE ins P l n = fnsE ins' P l n := by
  induction l generalizing n with
  | nil => rfl
  | cons x t ih => simp only [fnsE]; rw [fnE_congr h, ih]
/-- Both tell the same of a program none of whose functions has fewer than no parameters. -/
theorem chk_eq (P : Pr) (h : ∀ f ∈ P.fns, 0 ≤ f.params) : chk insP P = chk insR P := by
  unfold chk; rw [fnsE_congr (ins_eq P h)]
theorem fnE_shaped {ins : Pr → Fn → Ins → Int} {P : Pr} {n : Nat} {f : Fn} (h : (fnE ins P n f).1 = 0) : shaped f ∧ (n = 0 → f.params = 0) := by
  apply Classical.byContradiction
  intro q
  unfold fnE at h
  rw [if_neg q] at h
  simp at h
theorem fnsE_each {ins : Pr → Fn → Ins → Int} {P : Pr} (l : List Fn) (j : Nat) (h : (fnsE ins P l j).1 = 0) : ∀ i f, l[i]? = some f → (fnE ins P (j + i) f).1 = 0 := by
  induction l generalizing j with
  | nil => intro i f hf; simp at hf
  | cons x t ih =>
    simp only [fnsE] at h
    by_cases hx : (fnE ins P j x).1 = 0
    · rw [if_pos hx] at h
      intro i f hf
      cases i with
      | zero => simp at hf; subst hf; rw [Nat.add_zero]; exact hx
      | succ i => simp at hf; have := ih (j + 1) h i f hf; rwa [show j + 1 + i = j + (i + 1) by omega] at this
    · rw [if_neg hx] at h; exact absurd h hx
theorem chk_sizes0 {ins : Pr → Fn → Ins → Int} {P : Pr} (h : (chk ins P).1 = 0) : sizesE P = 0 := by
  apply Classical.byContradiction
  intro q
  unfold chk at h
  rw [if_neg q] at h
  exact q h
theorem chk_each {ins : Pr → Fn → Ins → Int} {P : Pr} (h : (chk ins P).1 = 0) (i : Nat) (f : Fn) (hf : P.fns[i]? = some f) : (fnE ins P i f).1 = 0 := by
  have h0 := chk_sizes0 h
  unfold chk at h
  rw [if_pos h0] at h
  have := fnsE_each P.fns 0 h i f hf
  rwa [Nat.zero_add] at this
theorem chk_shaped {ins : Pr → Fn → Ins → Int} {P : Pr} (h : (chk ins P).1 = 0) (f : Fn) (hf : f ∈ P.fns) : shaped f := by
  obtain ⟨i, hi, rfl⟩ := List.getElem_of_mem hf
  exact (fnE_shaped (chk_each h i _ (List.getElem?_eq_getElem hi))).1
/-- A program is right. -/
def right (P : Pr) : Prop := (chk insP P).1 = 0
theorem right_iff (P : Pr) : (chk insP P).1 = 0 ↔ (chk insR P).1 = 0 := by
  constructor
  · intro h; rw [← chk_eq P (fun f hf => (chk_shaped h f hf).2.1.1)]; exact h
  · intro h; rw [chk_eq P (fun f hf => (chk_shaped h f hf).2.1.1)]; exact h
theorem sizes_ok {P : Pr} (h : sizesE P = 0) : P.vars.length ≤ 8 ∧ (0 ≤ P.locks ∧ P.locks ≤ 4) ∧ P.chans.length ≤ 4 ∧ (1 ≤ P.fns.length ∧ P.fns.length ≤ 8) := by
  apply Classical.byContradiction
  intro q
  unfold sizesE at h
  rw [if_neg q] at h
  simp at h
end Go.Proofs.YtaghfahhfockkaaDoor.pg
