/- Forms and instructions, as plain mathematics. -/
import Derived.Test.YtgmpdnmheiblpaaDoorM4
namespace Go.Proofs.YtgmpdnmheiblpaaDoor.pg
set_option linter.unusedVariables false
theorem formOf_big (op : Int) (h : ¬ (0 ≤ op ∧ op < 66)) : formOf op = [] := by
  unfold formOf
  repeat rw [if_neg (by omega)]
/-- A form has four letters, each a byte, or none at all. -/
theorem formOf_four (op : Int) : formOf op = [] ∨ ∃ a b c d : Nat, formOf op = [(a : Int), (b : Int), (c : Int), (d : Int)] ∧ a < 256 ∧ b < 256 ∧ c < 256 ∧ d < 256 := by
  by_cases h : 0 ≤ op ∧ op < 66
  · obtain ⟨n, rfl⟩ : ∃ n : Nat, op = (n : Int) := ⟨op.toNat, by omega⟩
    have key : ∀ n : Fin 66, formOf ((n.val : Nat) : Int) = [] ∨ ((formOf ((n.val : Nat) : Int)).length = 4 ∧ ∀ x ∈ formOf ((n.val : Nat) : Int), 0 ≤ x ∧ x < 256) := by decide
    rcases key ⟨n, by omega⟩ with h | ⟨h1, h2⟩
    · exact .inl h
    · right
      simp only at h1 h2
      match hf : formOf (n : Int), h1 with
      | [a, b, c, d], _ =>
        rw [hf] at h2
        have ha := h2 a (by simp)
        have hb := h2 b (by simp)
        have hc := h2 c (by simp)
        have hd := h2 d (by simp)
        exact ⟨a.toNat, b.toNat, c.toNat, d.toNat, by rw [Int.toNat_of_nonneg ha.1, Int.toNat_of_nonneg hb.1, Int.toNat_of_nonneg hc.1, Int.toNat_of_nonneg hd.1], by omega, by omega, by omega, by omega⟩
  · exact .inl (formOf_big op h)
/-- Where the letter p stands: behind the letter f. -/
theorem p_where (op : Int) (k : Nat) (h : lt op k = 112) : k = 2 ∧ lt op 1 = 102 := by
  by_cases ho : 0 ≤ op ∧ op < 66
  · obtain ⟨n, rfl⟩ : ∃ n : Nat, op = (n : Int) := ⟨op.toNat, by omega⟩
    have key : ∀ n : Fin 66, (∀ k : Fin 4, lt ((n.val : Nat) : Int) k.val = 112 → k.val = 2 ∧ lt ((n.val : Nat) : Int) 1 = 102) ∧ (formOf ((n.val : Nat) : Int)).length ≤ 4 := by decide
    have k4 : k < 4 := by
      have h4 := (key ⟨n, by omega⟩).2
      simp only at h4
      apply Classical.byContradiction
      intro hk
      unfold lt at h
      rw [List.getD_eq_getElem?_getD, List.getElem?_eq_none (by omega)] at h
      simp at h
    exact (key ⟨n, by omega⟩).1 ⟨k, k4⟩ h
  · unfold lt at h
    rw [formOf_big op ho] at h
    simp at h
theorem insE_op {r : Prop} [Decidable r] {P : Pr} {f : Fn} {i : Ins} (h : formOf i.op = []) : insE r P f i = 33 := by unfold insE; rw [if_neg (fun q => q h)]
theorem unused_iff (i : Ins) : unused i ↔ ∃ j, j < 4 ∧ lt i.op j = 45 ∧ i.x j ≠ 0 := by
  constructor
  · rintro (h | h | h | h)
    · exact ⟨0, by omega, h⟩
    · exact ⟨1, by omega, h⟩
    · exact ⟨2, by omega, h⟩
    · exact ⟨3, by omega, h⟩
  · rintro ⟨j, hj, h⟩
    match j, hj, h with
    | 0, _, h => exact .inl h
    | 1, _, h => exact .inr (.inl h)
    | 2, _, h => exact .inr (.inr (.inl h))
    | 3, _, h => exact .inr (.inr (.inr h))
theorem insE_unused {r : Prop} [Decidable r] {P : Pr} {f : Fn} {i : Ins} (h : formOf i.op ≠ []) (hu : unused i) : insE r P f i = 34 := by unfold insE; rw [if_pos h, if_pos hu]
/-- The first error of four. -/
theorem fst4_hit (g : Nat → Int) (k : Nat) (hk : k < 4) (h : ∀ j, j < k → g j = 0) (hx : g k ≠ 0) : fst4 (g 0) (g 1) (g 2) (g 3) = g k := by
  unfold fst4
  match k, hk with
  | 0, _ => rw [if_neg hx]
  | 1, _ => rw [if_pos (h 0 (by omega)), if_neg hx]
  | 2, _ => rw [if_pos (h 0 (by omega)), if_pos (h 1 (by omega)), if_neg hx]
  | 3, _ => rw [if_pos (h 0 (by omega)), if_pos (h 1 (by omega)), if_pos (h 2 (by omega))]
theorem insE_hit {r : Prop} [Decidable r] {P : Pr} {f : Fn} {i : Ins} (h : formOf i.op ≠ []) (hu : ¬ unused i) (k : Nat) (hk : k < 4) (hb : ∀ j, j < k → opndE r P f (lt i.op j) (i.x j) = 0) (hx : opndE r P f (lt i.op k) (i.x k) ≠ 0) :
    insE r P f i = opndE r P f (lt i.op k) (i.x k) := by
  unfold insE; rw [if_pos h, if_neg hu]
  exact fst4_hit (fun j => opndE r P f (lt i.op j) (i.x j)) k hk hb hx
theorem insE_ok {r : Prop} [Decidable r] {P : Pr} {f : Fn} {i : Ins} (h : formOf i.op ≠ []) (hu : ¬ unused i) (hb : ∀ j, j < 4 → opndE r P f (lt i.op j) (i.x j) = 0) : insE r P f i = 0 := by
  unfold insE fst4; rw [if_pos h, if_neg hu]
  have h0 := hb 0 (by omega)
  have h1 := hb 1 (by omega)
  have h2 := hb 2 (by omega)
  have h3 := hb 3 (by omega)
  simp only [Ins.x] at h0 h1 h2 h3
  rw [if_pos h0, if_pos h1, if_pos h2, h3]
end Go.Proofs.YtgmpdnmheiblpaaDoor.pg
/- Where package prog's order and the document's own agree on what is right. -/
namespace Go.Proofs.YtgmpdnmheiblpaaDoor.pg
set_option linter.unusedVariables false
theorem par_nonneg (P : Pr) (h : ∀ f ∈ P.fns, 0 ≤ f.params) (b : Int) : 0 ≤ P.par b := by
  unfold Pr.par
  split
  · rename_i f hf
    exact h f (List.mem_of_getElem? hf)
  · exact Int.le_refl 0
theorem room_iff (k c regs : Int) (h : 0 ≤ k) : roomP k c regs ↔ roomR k c regs := by
  unfold roomP roomR
  by_cases h0 : k = 0
  · subst h0
    simp
  · rw [if_neg h0]
    by_cases hc : c < 0
    · rw [if_pos hc]; constructor
      · exact fun q => q.elim
      · intro q; exact q (.inr ⟨by omega, .inl hc⟩)
    · rw [if_neg hc]; constructor
      · intro q; rintro (q' | q') <;> omega
      · intro q
        apply Classical.byContradiction
        intro q'
        exact q (.inr ⟨by omega, .inr (by omega)⟩)
theorem opndE_congr {r r' : Prop} [Decidable r] [Decidable r'] (h : r ↔ r') (P : Pr) (f : Fn) (l x : Int) : opndE r P f l x = opndE r' P f l x := by
  unfold opndE
  by_cases q : r
  · rw [if_pos q, if_pos (h.mp q)]
  · rw [if_neg q, if_neg (fun t => q (h.mpr t))]
theorem insE_congr {r r' : Prop} [Decidable r] [Decidable r'] (h : r ↔ r') (P : Pr) (f : Fn) (i : Ins) : insE r P f i = insE r' P f i := by
  unfold insE
  rw [opndE_congr h, opndE_congr h, opndE_congr h, opndE_congr h]
theorem ins_eq (P : Pr) (h : ∀ f ∈ P.fns, 0 ≤ f.params) (f : Fn) (i : Ins) : insP P f i = insR P f i := insE_congr (room_iff _ _ _ (par_nonneg P h i.b)) P f i
theorem fnE_congr {ins ins' : Pr → Fn → Ins → Int} {P : Pr} (h : ∀ f i, ins P f i = ins' P f i) (n : Nat) (f : Fn) : fnE ins P n f = fnE ins' P n f := by
  have : ins P f = ins' P f := funext fun i => h f i
  unfold fnE; rw [this]
theorem fnsE_congr {ins ins' : Pr → Fn → Ins → Int} {P : Pr} (h : ∀ f i, ins P f i = ins' P f i) (l : List Fn) (n : Nat) : fnsE ins P l n = fnsE ins' P l n := by
  induction l generalizing n with
  | nil => rfl
  | cons x t ih => simp only [fnsE]; rw [fnE_congr h, ih]
/-- Both tell the same of a program none of whose functions has fewer than no parameters. -/
theorem chk_eq (P : Pr) (h : ∀ f ∈ P.fns, 0 ≤ f.params) : chk insP P = chk insR P := by
  unfold chk; rw [fnsE_congr (ins_eq P h)]
theorem fnE_shaped {ins : Pr → Fn → Ins → Int} {P : Pr} {n : Nat} {f : Fn} (h : (fnE ins P n f).1 = 0) : shaped f ∧ (n = 0 → f.params = 0) := by
  apply Classical.byContradiction
  intro q
  unfold fnE at h
  rw [if_neg q] at h
  simp at h
theorem fnsE_each {ins : Pr → Fn → Ins → Int} {P : Pr} (l : List Fn) (j : Nat) (h : (fnsE ins P l j).1 = 0) : ∀ i f, l[i]? = some f → (fnE ins P (j + i) f).1 = 0 := by
  induction l generalizing j with
  | nil => intro i f hf; simp at hf
  | cons x t ih =>
    simp only [fnsE] at h
    by_cases hx : (fnE ins P j x).1 = 0
    · rw [if_pos hx] at h
      intro i f hf
      cases i with
      | zero => simp at hf; subst hf; rw [Nat.add_zero]; exact hx
      | succ i => simp at hf; have := ih (j + 1) h i f hf; rwa [show j + 1 + i = j + (i + 1) by omega] at this
    · rw [if_neg hx] at h; exact absurd h hx
theorem chk_sizes0 {ins : Pr → Fn → Ins → Int} {P : Pr} (h : (chk ins P).1 = 0) : sizesE P = 0 := by
  apply Classical.byContradiction
  intro q
  unfold chk at h
  rw [if_neg q] at h
  exact q h
theorem chk_each {ins : Pr → Fn → Ins → Int} {P : Pr} (h : (chk ins P).1 = 0) (i : Nat) (f : Fn) (hf : P.fns[i]? = some f) : (fnE ins P i f).1 = 0 := by
  have h0 := chk_sizes0 h
  unfold chk at h
  rw [if_pos h0] at h
  have := fnsE_each P.fns 0 h i f hf
  rwa [Nat.zero_add] at this
theorem chk_shaped {ins : Pr → Fn → Ins → Int} {P : Pr} (h : (chk ins P).1 = 0) (f : Fn) (hf : f ∈ P.fns) : shaped f := by
  obtain ⟨i, hi, rfl⟩ := List.getElem_of_mem hf
  exact (fnE_shaped (chk_each h i _ (List.getElem?_eq_getElem hi))).1
/-- A program is right. -/
def right (P : Pr) : Prop := (chk insP P).1 = 0
theorem right_iff (P : Pr) : (chk insP P).1 = 0 ↔ (chk insR P).1 = 0 := by
  constructor
  · intro h; rw [← chk_eq P (fun f hf => (chk_shaped h f hf).2.1.1)]; exact h
  · intro h; rw [chk_eq P (fun f hf => (chk_shaped h f hf).2.1.1)]; exact h
theorem sizes_ok {P : Pr} (h : sizesE P = 0) : P.vars.length ≤ 8 ∧ (0 ≤ P.locks ∧ P.locks ≤ 4) ∧ P.chans.length ≤ 4 ∧ (1 ≤ P.fns.length ∧ P.fns.length ≤ 8) := by
  apply Classical.byContradiction
  intro q
  unfold sizesE at h
  rw [if_neg q] at h
  simp at h
end Go.Proofs.YtgmpdnmheiblpaaDoor.pg
/- Which registers an instruction reads and sets, as plain mathematics: by the letters of its form, and by the document's own table. -/
namespace Go.Proofs.YtgmpdnmheiblpaaDoor.pg
set_option linter.unusedVariables false
set_option linter.unusedSimpArgs false
/-- The registers that are marked, rising, among the first k. -/
def upto (m : Nat → Bool) (k : Nat) : List Int := ((List.range k).filter m).map fun n : Nat => (n : Int)
theorem upto_yes {m : Nat → Bool} {k : Nat} (h : m k = true) : upto m (k + 1) = upto m k ++ [(k : Int)] := by simp [upto, List.range_succ, List.filter_append, h]
theorem upto_no {m : Nat → Bool} {k : Nat} (h : m k = false) : upto m (k + 1) = upto m k := by simp [upto, List.range_succ, List.filter_append, h]
theorem upto_len (m : Nat → Bool) (k : Nat) : (upto m k).length ≤ k := by
  unfold upto
  rw [List.length_map]
  exact Nat.le_trans (List.length_filter_le _ _) (by simp)
theorem upto_congr {m m' : Nat → Bool} {k : Nat} (h : ∀ n, n < k → m n = m' n) : upto m k = upto m' k := by
  unfold upto
  rw [List.filter_congr fun n hn => h n (List.mem_range.mp hn)]
theorem upto_mem {m : Nat → Bool} {k : Nat} {z : Int} (h : z ∈ upto m k) : ∃ n : Nat, z = n ∧ n < k ∧ m n = true := by
  unfold upto at h
  obtain ⟨n, hn, rfl⟩ := List.mem_map.mp h
  obtain ⟨h1, h2⟩ := List.mem_filter.mp hn
  exact ⟨n, rfl, List.mem_range.mp h1, h2⟩
theorem mem_upto {m : Nat → Bool} {k n : Nat} (h : n < k) (hm : m n = true) : (n : Int) ∈ upto m k :=
  List.mem_map.mpr ⟨n, List.mem_filter.mpr ⟨List.mem_range.mpr h, hm⟩, rfl⟩
theorem take_one {α : Type} (l : List α) (k : Nat) (x : α) (h : l[k]? = some x) : l.take (k + 1) = l.take k ++ [x] := by
  obtain ⟨hk, rfl⟩ := List.getElem?_eq_some_iff.mp h
  exact List.take_succ_eq_append_getElem hk
/-- Marked: what a list has. -/
def inl (l : List Int) : Nat → Bool := fun n => decide ((n : Int) ∈ l)
theorem inl_nil (n : Nat) : inl [] n = false := by simp [inl]
theorem inl_snoc (l : List Int) (x : Int) (n : Nat) : inl (l ++ [x]) n = (inl l n || decide ((n : Int) = x)) := by
  simp [inl]
theorem inl_congr {l l' : List Int} {k : Nat} (h : ∀ n : Nat, n < k → ((n : Int) ∈ l ↔ (n : Int) ∈ l')) : upto (inl l) k = upto (inl l') k :=
  upto_congr fun n hn => by unfold inl; exact decide_eq_decide.mpr (h n hn)
abbrev firstSet (op : Int) : Prop := ¬ (op = 43 ∨ op = 44 ∨ op = 63 ∨ op = 65)
def Fn.sends (f : Fn) (x : Int) : List Int := match f.sels[x.toNat]? with | some s => (s.cases.filter fun c => c.send).map Cas.reg | none => []
def Fn.takes (f : Fn) (x : Int) : List Int := match f.sels[x.toNat]? with | some s => (s.cases.filter fun c => !c.send && decide (c.reg ≠ -1)).map Cas.reg | none => []
def Fn.takesR (f : Fn) (x : Int) : List Int := match f.sels[x.toNat]? with | some s => (s.cases.filter fun c => !c.send).map Cas.reg | none => []
def from_ (c : Int) (k : Nat) : List Int := (List.range k).map fun n : Nat => c + (n : Int)
theorem from_snoc (c : Int) (j : Nat) : from_ c (j + 1) = from_ c j ++ [c + (j : Int)] := by simp [from_, List.range_succ]
/-- What one operand's letter adds. -/
def tstep (P : Pr) (f : Fn) (i : Ins) (k : Nat) (q : List Int × List Int) : List Int × List Int :=
  if lt i.op k = 114 then (if k = 0 ∧ firstSet i.op then (q.1, q.2 ++ [i.x k]) else (q.1 ++ [i.x k], q.2)) else
  if lt i.op k = 119 then (q.1 ++ [i.x k], q.2) else
  if lt i.op k = 111 then (if i.x k = -1 then q else (q.1, q.2 ++ [i.x k])) else
  if lt i.op k = 112 then (q.1 ++ from_ i.c (P.par i.b).toNat, q.2) else
  if lt i.op k = 115 then (f.sends (i.x k), f.takes (i.x k)) else q
def touchTo (P : Pr) (f : Fn) (i : Ins) : Nat → List Int × List Int
  | 0 => ([], [])
  | k + 1 => tstep P f i k (touchTo P f i k)
/-- The document's own lists. -/
def rdL (P : Pr) (f : Fn) (i : Ins) : List Int :=
  if i.op ≤ 15 ∨ i.op = 41 then [i.b] else if i.op ≤ 36 then [i.b, i.c] else if i.op = 43 ∨ i.op = 44 ∨ i.op = 63 ∨ i.op = 65 then [i.a] else
  if i.op = 51 ∨ i.op = 54 ∨ i.op = 58 then [i.b] else if i.op = 52 then [i.c] else if i.op = 53 then [i.c, i.n] else if i.op = 61 then f.sends i.a else if i.op = 62 then from_ i.c (P.par i.b).toNat else []
def stL (f : Fn) (i : Ins) : List Int :=
  if i.op ≤ 41 ∨ i.op = 50 ∨ i.op = 52 ∨ i.op = 53 ∨ i.op = 57 ∨ i.op = 62 then [i.a] else if i.op = 59 then [i.a, i.c] else if i.op = 61 then f.takesR i.a else []
/-- The operations. -/
theorem ops_of {op : Int} (h : known op) : (1 ≤ op ∧ op ≤ 15) ∨ (16 ≤ op ∧ op ≤ 36) ∨ op = 40 ∨ op = 41 ∨ op = 42 ∨ op = 43 ∨ op = 44 ∨ op = 45 ∨ op = 50 ∨ op = 51 ∨ op = 52 ∨ op = 53 ∨ op = 54 ∨ op = 55 ∨ op = 56 ∨ op = 57 ∨ op = 58 ∨ op = 59 ∨ op = 60 ∨ op = 61 ∨ op = 62 ∨ op = 63 ∨ op = 64 ∨ op = 65 := by
  apply Classical.byContradiction
  intro q
  apply h
  unfold formOf
  repeat rw [if_neg (by omega)]
theorem lt_one {op : Int} (h : 1 ≤ op ∧ op ≤ 15) : lt op 0 = 114 ∧ lt op 1 = 114 ∧ lt op 2 = 45 ∧ lt op 3 = 45 := by simp [lt, formOf, h]
theorem lt_two {op : Int} (h : 16 ≤ op ∧ op ≤ 36) : lt op 0 = 114 ∧ lt op 1 = 114 ∧ lt op 2 = 114 ∧ lt op 3 = 45 := by
  have : ¬ op ≤ 15 := by omega
  simp [lt, formOf, h, this]
theorem takes_mem (f : Fn) (x : Int) (n : Nat) : (n : Int) ∈ f.takes x ↔ (n : Int) ∈ f.takesR x := by
  unfold Fn.takes Fn.takesR
  split
  · simp only [List.mem_map, List.mem_filter]
    constructor
    · rintro ⟨c, ⟨h1, h2⟩, h3⟩
      exact ⟨c, ⟨h1, by simp at h2; simp [h2.1]⟩, h3⟩
    · rintro ⟨c, ⟨h1, h2⟩, h3⟩
      refine ⟨c, ⟨h1, ?_⟩, h3⟩
      have : c.reg ≠ -1 := by omega
      simp at h2
      simp [h2, this]
  · exact Iff.rfl
set_option maxHeartbeats 2000000 in
/-- By the letters and by the document's own table: the same registers. -/
theorem touch_agree (P : Pr) (f : Fn) (i : Ins) (h : known i.op) : ∀ n : Nat, ((n : Int) ∈ (touchTo P f i 4).1 ↔ (n : Int) ∈ rdL P f i) ∧ ((n : Int) ∈ (touchTo P f i 4).2 ↔ (n : Int) ∈ stL f i) := by
  intro n
  have hn : ∀ z : Int, z = -1 → ¬ (n : Int) = z := by intro z hz; omega
  rcases ops_of h with h | h | h | h | h | h | h | h | h | h | h | h | h | h | h | h | h | h | h | h | h | h | h | h
  · obtain ⟨l0, l1, l2, l3⟩ := lt_one h
    have e : firstSet i.op := by unfold firstSet; omega
    simp only [touchTo, tstep, l0, l1, l2, l3, if_pos (And.intro rfl e), rdL, stL, Ins.x, show i.op ≤ 15 from h.2, show i.op ≤ 41 by omega]
    simp [show ¬ i.op = 43 by omega, show ¬ i.op = 44 by omega, show ¬ i.op = 63 by omega, show ¬ i.op = 65 by omega]
  · obtain ⟨l0, l1, l2, l3⟩ := lt_two h
    have e : firstSet i.op := by unfold firstSet; omega
    simp only [touchTo, tstep, l0, l1, l2, l3, if_pos (And.intro rfl e), rdL, stL, Ins.x, show ¬ i.op ≤ 15 by omega, show ¬ i.op = 41 by omega, show i.op ≤ 36 from h.2, show i.op ≤ 41 by omega]
    simp [show ¬ i.op = 43 by omega, show ¬ i.op = 44 by omega, show ¬ i.op = 63 by omega, show ¬ i.op = 65 by omega]
  all_goals (simp [touchTo, tstep, lt, formOf, h, firstSet, rdL, stL, Ins.x])
  · by_cases ha : i.a = -1 <;> simp [ha, hn]
  · by_cases ha : i.a = -1 <;> by_cases hc : i.c = -1 <;> simp [ha, hc, hn]
  · exact takes_mem f i.a n
  · by_cases ha : i.a = -1 <;> simp [ha, hn]
theorem upto_count (m : Nat → Bool) (k : Nat) : (upto m k).length = (List.range k).countP m := by
  unfold upto; rw [List.length_map, List.countP_eq_length_filter]
theorem count_at (x : Int) (k : Nat) : (List.range k).countP (fun n : Nat => decide ((n : Int) = x)) = if 0 ≤ x ∧ x < k then 1 else 0 := by
  induction k with
  | zero => simp
  | succ k ih =>
    rw [List.range_succ, List.countP_append, ih]
    by_cases h : (k : Int) = x
    · rw [if_neg (by omega), if_pos (by omega)]; simp [h]
    · by_cases h2 : 0 ≤ x ∧ x < k
      · rw [if_pos h2, if_pos (by omega)]; simp [h]
      · rw [if_neg h2, if_neg (by omega)]; simp [h]
theorem count_or (p q : Nat → Bool) (l : List Nat) : l.countP (fun n => p n || q n) ≤ l.countP p + l.countP q := by
  induction l with
  | nil => simp
  | cons x t ih =>
    rw [List.countP_cons, List.countP_cons, List.countP_cons]
    cases p x <;> cases q x <;> simp <;> omega
theorem inl_cons (x : Int) (l : List Int) (n : Nat) : inl (x :: l) n = (decide ((n : Int) = x) || inl l n) := by
  simp [inl]
theorem upto_inl_len (l : List Int) (k : Nat) : (upto (inl l) k).length ≤ l.length := by
  rw [upto_count]
  induction l with
  | nil => simp [inl]
  | cons x t ih =>
    have h1 : inl (x :: t) = fun n : Nat => decide ((n : Int) = x) || inl t n := funext fun n => inl_cons x t n
    rw [h1]
    have h2 : (List.range k).countP (fun n : Nat => decide ((n : Int) = x) || inl t n) ≤ _ := count_or (fun n : Nat => decide ((n : Int) = x)) (inl t) (List.range k)
    rw [count_at] at h2
    rw [List.length_cons]
    split at h2 <;> omega
theorem upto_pos {l : List Int} {k : Nat} {x : Int} (h : x ∈ l) (h0 : 0 ≤ x) (hk : x < k) : 0 < (upto (inl l) k).length := by
  have : ((x.toNat : Nat) : Int) ∈ upto (inl l) k := mem_upto (by omega) (by unfold inl; rw [decide_eq_true_iff]; rw [Int.toNat_of_nonneg h0]; exact h)
  exact List.length_pos_of_mem this
/-- Rising. -/
theorem upto_rise (m : Nat → Bool) (k : Nat) : (upto m k).Pairwise (· < ·) := by
  unfold upto
  refine List.Pairwise.map _ (fun a b h => ?_) ((List.Pairwise.filter _ List.pairwise_lt_range))
  exact Int.ofNat_lt.mpr h
/-- How many operands are registers. -/
def isR (op : Int) (k : Nat) : Nat := if lt op k = 114 ∨ lt op k = 119 then 1 else 0
def regsN (op : Int) : Nat → Nat
  | 0 => 0
  | k + 1 => regsN op k + isR op k
set_option maxHeartbeats 2000000 in
theorem touch_few (P : Pr) (f : Fn) (i : Ins) (h : known i.op) (h1 : i.op ≠ 61) (h2 : i.op ≠ 62) : (touchTo P f i 4).1.length + (touchTo P f i 4).2.length ≤ regsN i.op 4 + 2 := by
  rcases ops_of h with h | h | h | h | h | h | h | h | h | h | h | h | h | h | h | h | h | h | h | h | h | h | h | h
  · obtain ⟨l0, l1, l2, l3⟩ := lt_one h
    simp only [touchTo, tstep, l0, l1, l2, l3, regsN, isR, Ins.x]
    simp [show ¬ i.op = 43 by omega, show ¬ i.op = 44 by omega, show ¬ i.op = 63 by omega, show ¬ i.op = 65 by omega]
  · obtain ⟨l0, l1, l2, l3⟩ := lt_two h
    simp only [touchTo, tstep, l0, l1, l2, l3, regsN, isR, Ins.x]
    simp [show ¬ i.op = 43 by omega, show ¬ i.op = 44 by omega, show ¬ i.op = 63 by omega, show ¬ i.op = 65 by omega]
  all_goals (simp [touchTo, tstep, lt, formOf, h, firstSet, regsN, isR, Ins.x] at *)
  all_goals (by_cases ha : i.a = -1 <;> by_cases hc : i.c = -1 <;> simp [ha, hc])
/-- The operands' letters of a right instruction. -/
theorem ins_known {r : Prop} [Decidable r] {P : Pr} {f : Fn} {i : Ins} (h : insE r P f i = 0) : known i.op := by
  apply Classical.byContradiction
  intro q
  unfold insE at h
  rw [if_neg q] at h
  simp at h
theorem fst4_zero {a b c d : Int} (h : fst4 a b c d = 0) : a = 0 ∧ b = 0 ∧ c = 0 ∧ d = 0 := by
  unfold fst4 at h
  split at h
  · rename_i h1
    split at h
    · rename_i h2
      split at h
      · rename_i h3; exact ⟨h1, h2, h3, h⟩
      · rename_i h3; exact absurd h h3
    · rename_i h2; exact absurd h h2
  · rename_i h1; exact absurd h h1
theorem ins_opnds {r : Prop} [Decidable r] {P : Pr} {f : Fn} {i : Ins} (h : insE r P f i = 0) : ∀ k, k < 4 → opndE r P f (lt i.op k) (i.x k) = 0 := by
  have hk := ins_known h
  unfold insE at h
  rw [if_pos hk] at h
  by_cases hu : unused i
  · rw [if_pos hu] at h; simp at h
  · rw [if_neg hu] at h
    obtain ⟨h0, h1, h2, h3⟩ := fst4_zero h
    intro k hk4
    have : k = 0 ∨ k = 1 ∨ k = 2 ∨ k = 3 := by omega
    rcases this with rfl | rfl | rfl | rfl
    · exact h0
    · exact h1
    · exact h2
    · exact h3
theorem opnd_r {r : Prop} [Decidable r] {P : Pr} {f : Fn} {l x : Int} (h : opndE r P f l x = 0) (hl : l = 114 ∨ l = 119) : inR x f.regs := by
  apply Classical.byContradiction
  intro q
  unfold opndE at h
  rw [if_neg (by omega), if_pos (by omega), if_neg q] at h
  simp at h
theorem opnd_o {r : Prop} [Decidable r] {P : Pr} {f : Fn} {x : Int} (h : opndE r P f 111 x = 0) : x = -1 ∨ inR x f.regs := by
  by_cases hx : x = -1
  · exact .inl hx
  · refine .inr (Classical.byContradiction fun q => ?_)
    unfold opndE at h
    rw [if_neg (by omega), if_pos (by omega), if_neg q] at h
    simp at h
theorem opnd_p {r : Prop} [Decidable r] {P : Pr} {f : Fn} {x : Int} (h : opndE r P f 112 x = 0) : r := by
  apply Classical.byContradiction
  intro q
  unfold opndE at h
  rw [if_neg (by omega), if_neg (by omega), if_pos rfl, if_neg q] at h
  simp at h
theorem opnd_s {r : Prop} [Decidable r] {P : Pr} {f : Fn} {x : Int} (h : opndE r P f 115 x = 0) : inR x f.sels.length := by
  apply Classical.byContradiction
  intro q
  unfold opndE at h
  simp [q] at h
theorem opnd_f {r : Prop} [Decidable r] {P : Pr} {f : Fn} {x : Int} (h : opndE r P f 102 x = 0) : inR x P.fns.length := by
  apply Classical.byContradiction
  intro q
  unfold opndE at h
  simp [q] at h
theorem opnd_t {r : Prop} [Decidable r] {P : Pr} {f : Fn} {x : Int} (h : opndE r P f 116 x = 0) : inR x f.code.length := by
  apply Classical.byContradiction
  intro q
  unfold opndE at h
  simp [q] at h
theorem room_from {k c regs : Int} (h : roomP k c regs) (hk : 0 ≤ k) : (k = 0 ∧ c = 0) ∨ 0 ≤ c ∧ c + k ≤ regs := by
  unfold roomP at h
  by_cases h0 : k = 0
  · rw [if_pos h0] at h; exact .inl ⟨h0, h⟩
  · rw [if_neg h0] at h
    by_cases hc : c < 0
    · rw [if_pos hc] at h; exact h.elim
    · rw [if_neg hc] at h; exact .inr ⟨by omega, h⟩
theorem cas_reg {P : Pr} {f : Fn} {c : Cas} (h : casE P f c = 0) : inR c.reg f.regs ∨ c.reg = -1 ∧ c.send = false := by
  apply Classical.byContradiction
  intro q
  unfold casE at h
  by_cases h1 : inR c.ch P.chans.length
  · rw [if_pos h1, if_neg q] at h; simp at h
  · rw [if_neg h1] at h; simp at h
theorem cas_to {P : Pr} {f : Fn} {c : Cas} (h : casE P f c = 0) : inR c.to f.code.length ∧ inR c.ch P.chans.length := by
  unfold casE at h
  by_cases h1 : inR c.ch P.chans.length
  · rw [if_pos h1] at h
    by_cases h2 : inR c.reg f.regs ∨ c.reg = -1 ∧ c.send = false
    · rw [if_pos h2] at h
      by_cases h3 : c.send = true ∧ P.room c.ch = 0
      · rw [if_pos h3] at h; simp at h
      · rw [if_neg h3] at h
        by_cases h4 : inR c.to f.code.length
        · exact ⟨h4, h1⟩
        · rw [if_neg h4] at h; simp at h
    · rw [if_neg h2] at h; simp at h
  · rw [if_neg h1] at h; simp at h
theorem sel_els {P : Pr} {f : Fn} {s : Sel} (h : selE P f s = 0) : (∀ c ∈ s.cases, casE P f c = 0) ∧ (s.els = -1 ∨ inR s.els f.code.length) := by
  unfold selE at h
  by_cases h1 : firstE (casE P f) s.cases = 0
  · rw [if_pos h1] at h
    refine ⟨(firstE_iff _ _).mp h1, ?_⟩
    apply Classical.byContradiction
    intro q
    rw [if_neg q] at h
    simp at h
  · rw [if_neg h1] at h; exact absurd h h1
/-- A right function's parts. -/
theorem fn_parts {ins : Pr → Fn → Ins → Int} {P : Pr} {n : Nat} {f : Fn} (h : (fnE ins P n f).1 = 0) : (∀ s ∈ f.sels, selE P f s = 0) ∧ (∀ i ∈ f.code, ins P f i = 0) ∧ ends (lastOp f) := by
  have hs := fnE_shaped h
  unfold fnE at h
  rw [if_pos hs] at h
  by_cases h1 : firstE (selE P f) f.sels = 0
  · rw [if_pos h1] at h
    by_cases h2 : firstE (ins P f) f.code = 0
    · rw [if_pos h2] at h
      refine ⟨(firstE_iff _ _).mp h1, (firstE_iff _ _).mp h2, ?_⟩
      apply Classical.byContradiction
      intro q
      rw [if_neg q] at h
      simp at h
    · rw [if_neg h2] at h
      simp only [firstAt_fst] at h
      exact absurd h h2
  · rw [if_neg h1] at h; exact absurd h h1
theorem chk_parts {ins : Pr → Fn → Ins → Int} {P : Pr} (h : (chk ins P).1 = 0) (f : Fn) (hf : f ∈ P.fns) : (∀ s ∈ f.sels, selE P f s = 0) ∧ (∀ i ∈ f.code, ins P f i = 0) ∧ ends (lastOp f) := by
  obtain ⟨i, hi, rfl⟩ := List.getElem_of_mem hf
  exact fn_parts (chk_each h i _ (List.getElem?_eq_getElem hi))
end Go.Proofs.YtgmpdnmheiblpaaDoor.pg
