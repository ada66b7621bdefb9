/- Forms and instructions, as plain mathematics. -/
import Derived.Test.YtaghfahhfockkaaDoorChk
namespace Go.Proofs.YtaghfahhfockkaaDoor.pg
set_option linter.unusedVariables false
theorem formOf_big (op : Int) (h : ¬ (0 ≤ op ∧ op < 66)) : formOf op = [] := by
  unfold formOf
  repeat rw [if_neg (by omega)]
/-- A form has four letters, each a byte, or none at all. -/
theorem formOf_four (op : Int) : formOf op = [] ∨ ∃ a b c d : Nat, formOf op = [(a : Int), (b : Int), (c : Int), (d : Int)] ∧ a < 256 ∧ b < 256 ∧ c < 256 ∧ d < 256 := by
  by_cases h : 0 ≤ op ∧ op < 66
  · obtain ⟨n, rfl⟩ : ∃ n : Nat, op = (n : Int) := ⟨op.toNat, by omega⟩
    have key : ∀ n : Fin 66, formOf ((n.val : Nat) : Int) = [] ∨ ((formOf ((n.val : Nat) : Int)).length = 4 ∧ ∀ x ∈ formOf ((n.val : Nat) : Int), 0 ≤ x ∧ x < 256) := by decide
    rcases key ⟨n, by omega⟩ with h | ⟨h1, h2⟩
    · exact .inl h
    · right
      simp only at h1 h2
      match hf : formOf (n : Int), h1 with
      | [a, b, c, d], _ =>
        rw [hf] at h2
        have ha := h2 a (by simp)
        have hb := h2 b (by simp)
        have hc := h2 c (by simp)
        have hd := h2 d (by simp)
        exact ⟨a.toNat, b.toNat, c.toNat, d.toNat, by rw [Int.toNat_of_nonneg ha.1, Int.toNat_of_nonneg hb.1, Int.toNat_of_nonneg hc.1, Int.toNat_of_nonneg hd.1], by omega, by omega, by omega, by omega⟩
  · exact .inl (formOf_big op h)
/-- Where the letter p stands: behind the letter f. -/
theorem p_where (op : Int) (k : Nat) (h : lt op k = 112) : k = 2 ∧ lt op 1 = 102 := by
  by_cases ho : 0 ≤ op ∧ op < 66
  · obtain ⟨n, rfl⟩ : ∃ n : Nat, op = (n : Int) := ⟨op.toNat, by omega⟩
    have key : ∀ n : Fin 66, (∀ k : Fin 4, lt ((n.val : Nat) : Int) k.val = 112 → k.val = 2 ∧ lt ((n.val : Nat) : Int) 1 = 102) ∧ (formOf ((n.val : Nat) : Int)).length ≤ 4 := by decide
    have k4 : k < 4 := by
      have h4 := (key ⟨n, by omega⟩).2
      simp only at h4
      apply Classical.byContradiction
      intro hk
      unfold lt at h
      rw [List.getD_eq_getElem?_getD, List.getElem?_eq_none (by omega)] at h
      simp at h
    exact (key ⟨n, by omega⟩).1 ⟨k, k4⟩ h
  · unfold lt at h
    rw [formOf_big op ho] at h
    simp at h
theorem insE_op {r : Prop} [Decidable r] {P : Pr} {f : Fn} {i : Ins} (h : formOf i.op = []) : insE r P f i = 33 := by unfold insE; rw [if_neg (fun q => q h)]
theorem unused_iff (i : Ins) : unused i ↔ ∃ j, j < 4 ∧ lt i.op j = 45 ∧ i.x j ≠ 0 := by
  constructor
  · rintro (h | h | h | h)
    · exact ⟨0, by omega, h⟩
    · exact ⟨1, by omega, h⟩
    · exact ⟨2, by omega, h⟩
    · exact ⟨3, by omega, h⟩
  · rintro ⟨j, hj, h⟩
    match j, hj, h with
    | 0, _, h => exact .inl h
    | 1, _, h => exact .inr (.inl h)
    | 2, _, h => exact .inr (.inr (.inl h))
    | 3, _, h => exact .inr (.inr (.inr h))
theorem insE_unused {r : Prop} [Decidable r] {P : Pr} {f : Fn} {i : Ins} (h : formOf i.op ≠ []) (hu : unused i) : insE r P f i = 34 := by unfold insE; rw [if_pos h, if_pos hu]
/-- The first error of four. -/
theorem fst4_hit (g : Nat → Int) (k : Nat) (hk : k < 4) (h : ∀ j, j < k → g j = 0) (hx : g k ≠ 0) : fst4 (g 0) (g 1) (g 2) (g 3) = g k := by
  unfold fst4
  match k, hk with
  | 0, _ => rw [if_neg hx]
  | 1, _ => rw [if_pos (h 0 (by omega)), if_neg hx]
  | 2, _ => rw [if_pos (h 0 (by omega)), if_pos (h 1 (by omega)), if_neg hx]
  | 3, _ => rw [if_pos (h 0 (by omega)), if_pos (h 1 (by omega)), if_pos (h 2 (by omega))]
theorem insE_hit {r : Prop} [Decidable r] {P : Pr} {f : Fn} {i : Ins} (h : formOf i.op ≠ []) (hu : ¬ unused i) (k : Nat) (hk : k < 4) (hb : ∀ j, j < k → opndE r P f (lt i.op j) (i.x j) = 0) (hx : opndE r P f (lt i.op k) (i.x k) ≠ 0) :
    insE r P f i = opndE r P f (lt i.op k) (i.x k) := by
  unfold insE; rw [if_pos h, if_neg hu]
  exact fst4_hit (fun j => opndE r P f (lt i.op j) (i.x j)) k hk hb hx
theorem insE_ok {r : Prop} [Decidable r] {P : Pr} {f : Fn} {i : Ins} (h : formOf i.op ≠ []) (hu : ¬ unused i) (hb : ∀ j, j < 4 → opndE r P f (lt i.op j) (i.x j) = 0) : insE r P f i = 0 := by
  unfold insE fst4; rw [if_pos h, if_neg hu]
  have h0 := hb 0 (by omega)
  have h1 := hb 1 (by omega)
  have h2 := hb 2 (by omega)
  have h3 := hb 3 (by omega)
  simp only [Ins.x] at h0 h1 h2 h3
  rw [if_pos h0, if_pos h1, if_pos h2, h3]
end Go.Proofs.YtaghfahhfockkaaDoor.pg
