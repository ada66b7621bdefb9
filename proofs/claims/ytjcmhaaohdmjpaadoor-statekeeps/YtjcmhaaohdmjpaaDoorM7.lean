/- Which registers an instruction reads and sets, as plain mathematics: by the letters of its form, and by the document's own table. -/
import Derived.Test.YtjcmhaaohdmjpaaDoorM6
namespace Go.Proofs.YtjcmhaaohdmjpaaDoor.pg
set_option linter.unusedVariables false
set_option linter.unusedSimpArgs false
/-- The registers that are marked, rising, among the first k. -/
def upto (m : Nat → Bool) (k : Nat) : List Int := ((List.range k).filter m).map fun n : Nat => (n : Int)
theorem upto_yes {m : Nat → Bool} {k : Nat} (h : m k = true) : upto m (k + 1) = upto m k ++ [(k : Int)] := by simp [upto, List.range_succ, List.filter_append, h]
theorem upto_no {m : Nat → Bool} {k : Nat} (h : m k = false) : upto m (k + 1) = upto m k := by simp [upto, List.range_succ, List.filter_append, h]
theorem upto_len (m : Nat → Bool) (k : Nat) : (upto m k).length ≤ k := by
  unfold upto
  rw [List.length_map]
  exact Nat.le_trans (List.length_filter_le _ _) (by simp)
theorem upto_congr {m m' : Nat → Bool} {k : Nat} (h : ∀ n, n < k → m n = m' n) : upto m k = upto m' k := by
  unfold upto
  rw [List.filter_congr fun n hn => h n (List.mem_range.mp hn)]
theorem upto_mem {m : Nat → Bool} {k : Nat} {z : Int} (h : z ∈ upto m k) : ∃ n : Nat, z = n ∧ n < k ∧ m n = true := by
  unfold upto at h
  obtain ⟨n, hn, rfl⟩ := List.mem_map.mp h
  obtain ⟨h1, h2⟩ := List.mem_filter.mp hn
  exact ⟨n, rfl, List.mem_range.mp h1, h2⟩
theorem mem_upto {m : Nat → Bool} {k n : Nat} (h : n < k) (hm : m n = true) : (n : Int) ∈ upto m k :=
  List.mem_map.mpr ⟨n, List.mem_filter.mpr ⟨List.mem_range.mpr h, hm⟩, rfl⟩
theorem take_one {α : Type} (l : List α) (k : Nat) (x : α) (h : l[k]? = some x) : l.take (k + 1) = l.take k ++ [x] := by
  obtain ⟨hk, rfl⟩ := List.getElem?_eq_some_iff.mp h
  exact List.take_succ_eq_append_getElem hk
/-- Marked: what a list has. -/
def inl (l : List Int) : Nat → Bool := fun n => decide ((n : Int) ∈ l)
theorem inl_nil (n : Nat) : inl [] n = false := by simp [inl]
theorem inl_snoc (l : List Int) (x : Int) (n : Nat) : inl (l ++ [x]) n = (inl l n || decide ((n : Int) = x)) := by
  simp [inl]
theorem inl_congr {l l' : List Int} {k : Nat} (h : ∀ n : Nat, n < k → ((n : Int) ∈ l ↔ (n : Int) ∈ l')) : upto (inl l) k = upto (inl l') k :=
  upto_congr fun n hn => by unfold inl; exact decide_eq_decide.mpr (h n hn)
abbrev firstSet (op : Int) : Prop := ¬ (op = 43 ∨ op = 44 ∨ op = 63 ∨ op = 65)
def Fn.sends (f : Fn) (x : Int) : List Int := match f.sels[x.toNat]? with | some s => (s.cases.filter fun c => c.send).map Cas.reg | none => []
def Fn.takes (f : Fn) (x : Int) : List Int := match f.sels[x.toNat]? with | some s => (s.cases.filter fun c => !c.send && decide (c.reg ≠ -1)).map Cas.reg | none => []
def Fn.takesR (f : Fn) (x : Int) : List Int := match f.sels[x.toNat]? with | some s => (s.cases.filter fun c => !c.send).map Cas.reg | none => []
def from_ (c : Int) (k : Nat) : List Int := (List.range k).map fun n : Nat => c + (n : Int)
theorem from_snoc (c : Int) (j : Nat) : from_ c (j + 1) = from_ c j ++ [c + (j : Int)] := by simp [from_, List.range_succ]
/-- What one operand's letter adds. -/
def tstep (P : Pr) (f : Fn) (i : Ins) (k : Nat) (q : List Int × List Int) : List Int × List Int :=
  if lt i.op k = 114 then (if k = 0 ∧ firstSet i.op then (q.1, q.2 ++ [i.x k]) else (q.1 ++ [i.x k], q.2)) else
  if lt i.op k = 119 then (q.1 ++ [i.x k], q.2) else
  if lt i.op k = 111 then (if i.x k = -1 then q else (q.1, q.2 ++ [i.x k])) else
  if lt i.op k = 112 then (q.1 ++ from_ i.c (P.par i.b).toNat, q.2) else
  if lt i.op k = 115 then (f.sends (i.x k), f.takes (i.x k)) else q
def touchTo (P : Pr) (f : Fn) (i : Ins) : Nat → List Int × List Int
  | 0 => ([], [])
  | k + 1 => tstep P f i k (touchTo P f i k)
/-- The document's own lists. -/
def rdL (P : Pr) (f : Fn) (i : Ins) : List Int :=
  if i.op ≤ 15 ∨ i.op = 41 then [i.b] else if i.op ≤ 36 then [i.b, i.c] else if i.op = 43 ∨ i.op = 44 ∨ i.op = 63 ∨ i.op = 65 then [i.a] else
  if i.op = 51 ∨ i.op = 54 ∨ i.op = 58 then [i.b] else if i.op = 52 then [i.c] else if i.op = 53 then [i.c, i.n] else if i.op = 61 then f.sends i.a else if i.op = 62 then from_ i.c (P.par i.b).toNat else []
def stL (f : Fn) (i : Ins) : List Int :=
  if i.op ≤ 41 ∨ i.op = 50 ∨ i.op = 52 ∨ i.op = 53 ∨ i.op = 57 ∨ i.op = 62 then [i.a] else if i.op = 59 then [i.a, i.c] else if i.op = 61 then f.takesR i.a else []
/-- The operations. -/
theorem ops_of {op : Int} (h : known op) : (1 ≤ op ∧ op ≤ 15) ∨ (16 ≤ op ∧ op ≤ 36) ∨ op = 40 ∨ op = 41 ∨ op = 42 ∨ op = 43 ∨ op = 44 ∨ op = 45 ∨ op = 50 ∨ op = 51 ∨ op = 52 ∨ op = 53 ∨ op = 54 ∨ op = 55 ∨ op = 56 ∨ op = 57 ∨ op = 58 ∨ op = 59 ∨ op = 60 ∨ op = 61 ∨ op = 62 ∨ op = 63 ∨ op = 64 ∨ op = 65 := by
  apply Classical.byContradiction
  intro q
  apply h
  unfold formOf
  repeat rw [if_neg (by omega)]
theorem lt_one {op : Int} (h : 1 ≤ op ∧ op ≤ 15) : lt op 0 = 114 ∧ lt op 1 = 114 ∧ lt op 2 = 45 ∧ lt op 3 = 45 := by simp [lt, formOf, h]
theorem lt_two {op : Int} (h : 16 ≤ op ∧ op ≤ 36) : lt op 0 = 114 ∧ lt op 1 = 114 ∧ lt op 2 = 114 ∧ lt op 3 = 45 := by
  have : ¬ op ≤ 15 := by omega
  simp [lt, formOf, h, this]
theorem takes_mem (f : Fn) (x : Int) (n : Nat) : (n : Int) ∈ f.takes x ↔ (n : Int) ∈ f.takesR x := by
  unfold Fn.takes Fn.takesR
  split
  · simp only [List.mem_map, List.mem_filter]
    constructor
    · rintro ⟨c, ⟨h1, h2⟩, h3⟩
      exact ⟨c, ⟨h1, by simp at h2; simp [h2.1]⟩, h3⟩
    · rintro ⟨c, ⟨h1, h2⟩, h3⟩
      refine ⟨c, ⟨h1, ?_⟩, h3⟩
      have : c.reg ≠ -1 := by omega
      simp at h2
      simp [h2, this]
  · exact Iff.rfl
set_option maxHeartbeats 2000000 in
/-- By the letters and by the document's own table: the same registers. -/
theorem touch_agree (P : Pr) (f : Fn) (i : Ins) (h : known i.op) : ∀ n : Nat, ((n : Int) ∈ (touchTo P f i 4).1 ↔ (n : Int) ∈ rdL P f i) ∧ ((n : Int) ∈ (touchTo P f i 4).2 ↔ (n : Int) ∈ stL f i) := by
  intro n
  have hn : ∀ z : Int, z = -1 → ¬ (n : Int) = z := by intro z hz; omega
  rcases ops_of h with h | h | h | h | h | h | h | h | h | h | h | h | h | h | h | h | h | h | h | h | h | h | h | h
  · obtain ⟨l0, l1, l2, l3⟩ := lt_one h
    have e : firstSet i.op := by unfold firstSet; omega
    simp only [touchTo, tstep, l0, l1, l2, l3, if_pos (And.intro rfl e), rdL, stL, Ins.x, show i.op ≤ 15 from h.2, show i.op ≤ 41 by omega]
    simp [show ¬ i.op = 43 by omega, show ¬ i.op = 44 by omega, show ¬ i.op = 63 by omega, show ¬ i.op = 65 by omega]
  · obtain ⟨l0, l1, l2, l3⟩ := lt_two h
    have e : firstSet i.op := by unfold firstSet; omega
    simp only [touchTo, tstep, l0, l1, l2, l3, if_pos (And.intro rfl e), rdL, stL, Ins.x, show ¬ i.op ≤ 15 by omega, show ¬ i.op = 41 by omega, show i.op ≤ 36 from h.2, show i.op ≤ 41 by omega]
    simp [show ¬ i.op = 43 by omega, show ¬ i.op = 44 by omega, show ¬ i.op = 63 by omega, show ¬ i.op = 65 by omega]
  all_goals (simp [touchTo, tstep, lt, formOf, h, firstSet, rdL, stL, Ins.x])
  · by_cases ha : i.a = -1 <;> simp [ha, hn]
  · by_cases ha : i.a = -1 <;> by_cases hc : i.c = -1 <;> simp [ha, hc, hn]
  · exact takes_mem f i.a n
  · by_cases ha : i.a = -1 <;> simp [ha, hn]
theorem upto_count (m : Nat → Bool) (k : Nat) : (upto m k).length = (List.range k).countP m := by
  unfold upto; rw [List.length_map, List.countP_eq_length_filter]
theorem count_at (x : Int) (k : Nat) : (List.range k).countP (fun n : Nat => decide ((n : Int) = x)) = if 0 ≤ x ∧ x < k then 1 else 0 := by
  induction k with
  | zero => simp
  | succ k ih =>
    rw [List.range_succ, List.countP_append, ih]
    by_cases h : (k : Int) = x
    · rw [if_neg (by omega), if_pos (by omega)]; simp [h]
    · by_cases h2 : 0 ≤ x ∧ x < k
      · rw [if_pos h2, if_pos (by omega)]; simp [h]
      · rw [if_neg h2, if_neg (by omega)]; simp [h]
theorem count_or (p q : Nat → Bool) (l : List Nat) : l.countP (fun n => p n || q n) ≤ l.countP p + l.countP q := by
  induction l with
  | nil => simp
  | cons x t ih =>
    rw [List.countP_cons, List.countP_cons, List.countP_cons]
    cases p x <;> cases q x <;> simp <;> omega
theorem inl_cons (x : Int) (l : List Int) (n : Nat) : inl (x :: l) n = (decide ((n : Int) = x) || inl l n) := by
  simp [inl]
theorem upto_inl_len (l : List Int) (k : Nat) : (upto (inl l) k).length ≤ l.length := by
  rw [upto_count]
  induction l with
  | nil => simp [inl]
  | cons x t ih =>
    have h1 : inl (x :: t) = fun n : Nat => decide ((n : Int) = x) || inl t n := funext fun n => inl_cons x t n
    rw [h1]
    have h2 : (List.range k).countP (fun n : Nat => decide ((n : Int) = x) || inl t n) ≤ _ := count_or (fun n : Nat => decide ((n : Int) = x)) (inl t) (List.range k)
    rw [count_at] at h2
    rw [List.length_cons]
    split at h2 <;> omega
theorem upto_pos {l : List Int} {k : Nat} {x : Int} (h : x ∈ l) (h0 : 0 ≤ x) (hk : x < k) : 0 < (upto (inl l) k).length := by
  have : ((x.toNat : Nat) : Int) ∈ upto (inl l) k := mem_upto (by omega) (by unfold inl; rw [decide_eq_true_iff]; rw [Int.toNat_of_nonneg h0]; exact h)
  exact List.length_pos_of_mem this
/-- Rising. -/
theorem upto_rise (m : Nat → Bool) (k : Nat) : (upto m k).Pairwise (· < ·) := by
  unfold upto
  refine List.Pairwise.map _ (fun a b h => ?_) ((List.Pairwise.filter _ List.pairwise_lt_range))
  exact Int.ofNat_lt.mpr h
/-- How many operands are registers. -/
def isR (op : Int) (k : Nat) : Nat := if lt op k = 114 ∨ lt op k = 119 then 1 else 0
def regsN (op : Int) : Nat → Nat
  | 0 => 0
  | k + 1 => regsN op k + isR op k
set_option maxHeartbeats 2000000 in
theorem touch_few (P : Pr) (f : Fn) (i : Ins) (h : known i.op) (h1 : i.op ≠ 61) (h2 : i.op ≠ 62) : (touchTo P f i 4).1.length + (touchTo P f i 4).2.length ≤ regsN i.op 4 + 2 := by
  rcases ops_of h with h | h | h | h | h | h | h | h | h | h | h | h | h | h | h | h | h | h | h | h | h | h | h | h
  · obtain ⟨l0, l1, l2, l3⟩ := lt_one h
    simp only [touchTo, tstep, l0, l1, l2, l3, regsN, isR, Ins.x]
    simp [show ¬ i.op = 43 by omega, show ¬ i.op = 44 by omega, show ¬ i.op = 63 by omega, show ¬ i.op = 65 by omega]
  · obtain ⟨l0, l1, l2, l3⟩ := lt_two h
    simp only [touchTo, tstep, l0, l1, l2, l3, regsN, isR, Ins.x]
    simp [show ¬ i.op = 43 by omega, show ¬ i.op = 44 by omega, show ¬ i.op = 63 by omega, show ¬ i.op = 65 by omega]
  all_goals (simp [touchTo, tstep, lt, formOf, h, firstSet, regsN, isR, Ins.x] at *)
  all_goals (by_cases ha : i.a = -1 <;> by_cases hc : i.c = -1 <;> simp [ha, hc])
/-- The operands' letters of a right instruction. -/
theorem ins_known {r : Prop} [Decidable r] {P : Pr} {f : Fn} {i : Ins} (h : insE r P f i = 0) : known i.op := by
  apply Classical.byContradiction
  intro q
  unfold insE at h
  rw [if_neg q] at h
  simp at h
theorem fst4_zero {a b c d : Int} (h : fst4 a b c d = 0) : a = 0 ∧ b = 0 ∧ c = 0 ∧ d = 0 := by
  unfold fst4 at h
  split at h
  · rename_i h1
    split at h
    · rename_i h2
      split at h
      · rename_i h3; exact ⟨h1, h2, h3, h⟩
      · rename_i h3; exact absurd h h3
    · rename_i h2; exact absurd h h2
  · rename_i h1; exact absurd h h1
theorem ins_opnds {r : Prop} [Decidable r] {P : Pr} {f : Fn} {i : Ins} (h : insE r P f i = 0) : ∀ k, k < 4 → opndE r P f (lt i.op k) (i.x k) = 0 := by
  have hk := ins_known h
  unfold insE at h
  rw [if_pos hk] at h
  by_cases hu : unused i
  · rw [if_pos hu] at h; simp at h
  · rw [if_neg hu] at h
    obtain ⟨h0, h1, h2, h3⟩ := fst4_zero h
    intro k hk4
    have : k = 0 ∨ k = 1 ∨ k = 2 ∨ k = 3 := by omega
    rcases this with rfl | rfl | rfl | rfl
    · exact h0
    · exact h1
    · exact h2
    · exact h3
theorem opnd_r {r : Prop} [Decidable r] {P : Pr} {f : Fn} {l x : Int} (h : opndE r P f l x = 0) (hl : l = 114 ∨ l = 119) : inR x f.regs := by
  apply Classical.byContradiction
  intro q
  unfold opndE at h
  rw [if_neg (by omega), if_pos (by omega), if_neg q] at h
  simp at h
theorem opnd_o {r : Prop} [Decidable r] {P : Pr} {f : Fn} {x : Int} (h : opndE r P f 111 x = 0) : x = -1 ∨ inR x f.regs := by
  by_cases hx : x = -1
  · exact .inl hx
  · refine .inr (Classical.byContradiction fun q => ?_)
    unfold opndE at h
    rw [if_neg (by omega), if_pos (by omega), if_neg q] at h
    simp at h
theorem opnd_p {r : Prop} [Decidable r] {P : Pr} {f : Fn} {x : Int} (h : opndE r P f 112 x = 0) : r := by
  apply Classical.byContradiction
  intro q
  unfold opndE at h
  rw [if_neg (by omega), if_neg (by omega), if_pos rfl, if_neg q] at h
  simp at h
theorem opnd_s {r : Prop} [Decidable r] {P : Pr} {f : Fn} {x : Int} (h : opndE r P f 115 x = 0) : inR x f.sels.length := by
  apply Classical.byContradiction
  intro q
  unfold opndE at h
  simp [q] at h
theorem opnd_f {r : Prop} [Decidable r] {P : Pr} {f : Fn} {x : Int} (h : opndE r P f 102 x = 0) : inR x P.fns.length := by
  apply Classical.byContradiction
  intro q
  unfold opndE at h
  simp [q] at h
theorem opnd_t {r : Prop} [Decidable r] {P : Pr} {f : Fn} {x : Int} (h : opndE r P f 116 x = 0) : inR x f.code.length := by
  apply Classical.byContradiction
  intro q
  unfold opndE at h
  simp [q] at h
theorem room_from {k c regs : Int} (h : roomP k c regs) (hk : 0 ≤ k) : (k = 0 ∧ c = 0) ∨ 0 ≤ c ∧ c + k ≤ regs := by
  unfold roomP at h
  by_cases h0 : k = 0
  · rw [if_pos h0] at h; exact .inl ⟨h0, h⟩
  · rw [if_neg h0] at h
    by_cases hc : c < 0
    · rw [if_pos hc] at h; exact h.elim
    · rw [if_neg hc] at h; exact .inr ⟨by omega, h⟩
theorem cas_reg {P : Pr} {f : Fn} {c : Cas} (h : casE P f c = 0) : inR c.reg f.regs ∨ c.reg = -1 ∧ c.send = false := by
  apply Classical.byContradiction
  intro q
  unfold casE at h
  by_cases h1 : inR c.ch P.chans.length
  · rw [if_pos h1, if_neg q] at h; simp at h
  · rw [if_neg h1] at h; simp at h
theorem cas_to {P : Pr} {f : Fn} {c : Cas} (h : casE P f c = 0) : inR c.to f.code.length ∧ inR c.ch P.chans.length := by
  unfold casE at h
  by_cases h1 : inR c.ch P.chans.length
  · rw [if_pos h1] at h
    by_cases h2 : inR c.reg f.regs ∨ c.reg = -1 ∧ c.send = false
    · rw [if_pos h2] at h
      by_cases h3 : c.send = true ∧ P.room c.ch = 0
      · rw [if_pos h3] at h; simp at h
      · rw [if_neg h3] at h
        by_cases h4 : inR c.to f.code.length
        · exact ⟨h4, h1⟩
        · rw [if_neg h4] at h; simp at h
    · rw [if_neg h2] at h; simp at h
  · rw [if_neg h1] at h; simp at h
theorem sel_els {P : Pr} {f : Fn} {s : Sel} (h : selE P f s = 0) : (∀ c ∈ s.cases, casE P f c = 0) ∧ (s.els = -1 ∨ inR s.els f.code.length) := by
  unfold selE at h
  by_cases h1 : firstE (casE P f) s.cases = 0
  · rw [if_pos h1] at h
    refine ⟨(firstE_iff _ _).mp h1, ?_⟩
    apply Classical.byContradiction
    intro q
    rw [if_neg q] at h
    simp at h
  · rw [if_neg h1] at h; exact absurd h h1
/-- A right function's parts. -/
theorem fn_parts {ins : Pr → Fn → Ins → Int} {P : Pr} {n : Nat} {f : Fn} (h : (fnE ins P n f).1 = 0) : (∀ s ∈ f.sels, selE P f s = 0) ∧ (∀ i ∈ f.code, ins P f i = 0) ∧ ends (lastOp f) := by
  have hs := fnE_shaped h
  unfold fnE at h
  rw [if_pos hs] at h
  by_cases h1 : firstE (selE P f) f.sels = 0
  · rw [if_pos h1] at h
    by_cases h2 : firstE (ins P f) f.code = 0
    · rw [if_pos h2] at h
      refine ⟨(firstE_iff _ _).mp h1, (firstE_iff _ _).mp h2, ?_⟩
      apply Classical.byContradiction
      intro q
      rw [if_neg q] at h
      simp at h
    · rw [if_neg h2] at h
      simp only [firstAt_fst] at h
      exact absurd h h2
  · rw [if_neg h1] at h; exact absurd h h1
theorem chk_parts {ins : Pr → Fn → Ins → Int} {P : Pr} (h : (chk ins P).1 = 0) (f : Fn) (hf : f ∈ P.fns) : (∀ s ∈ f.sels, selE P f s = 0) ∧ (∀ i ∈ f.code, ins P f i = 0) ∧ ends (lastOp f) := by
  obtain ⟨i, hi, rfl⟩ := List.getElem_of_mem hf
  exact fn_parts (chk_each h i _ (List.getElem?_eq_getElem hi))
end Go.Proofs.YtjcmhaaohdmjpaaDoor.pg
/- What a right program's code is, for one that is run: registers and places are there. -/
namespace Go.Proofs.YtjcmhaaohdmjpaaDoor.pg
set_option linter.unusedVariables false
set_option linter.unusedSimpArgs false
/-- A local operation. -/
abbrev locP (op : Int) : Prop := (1 ≤ op ∧ op ≤ 36) ∨ (40 ≤ op ∧ op ≤ 45)
structure GoodI (rg : Int) (n : Nat) (i : Ins) : Prop where
  a : (1 ≤ i.op ∧ i.op ≤ 36) ∨ i.op = 40 ∨ i.op = 41 ∨ i.op = 43 ∨ i.op = 44 → inR i.a rg
  b : (1 ≤ i.op ∧ i.op ≤ 36) ∨ i.op = 41 → inR i.b rg
  c : (1 ≤ i.op ∧ i.op ≤ 36) → inR i.c rg
  j : i.op = 42 → inR i.a n
  t : i.op = 43 → inR i.b n
structure GoodC (rg : Int) (code : List Ins) : Prop where
  r0 : 0 ≤ rg
  r8 : rg ≤ 8
  l1 : 1 ≤ code.length
  l64 : code.length ≤ 64
  each : ∀ i ∈ code, GoodI rg code.length i
  last : ∀ i, code[code.length - 1]? = some i → i.op = 42 ∨ i.op = 45 ∨ i.op = 61
theorem ltOne (op : Int) (h : (1 ≤ op ∧ op ≤ 15)) : lt op 0 = 114 ∧ lt op 1 = 114 ∧ lt op 2 = 45 := by unfold lt formOf; rw [if_pos h]; exact ⟨rfl, rfl, rfl⟩
theorem ltTwo (op : Int) (h : (16 ≤ op ∧ op ≤ 36)) : lt op 0 = 114 ∧ lt op 1 = 114 ∧ lt op 2 = 114 := by unfold lt formOf; rw [if_neg (by omega), if_pos h]; exact ⟨rfl, rfl, rfl⟩
theorem ins_used {r : Prop} [Decidable r] {P : Pr} {f : Fn} {i : Ins} (h : insE r P f i = 0) : ¬ unused i := by
  intro q
  have hk := ins_known h
  unfold insE at h
  rw [if_pos hk, if_pos q] at h
  simp at h
theorem good_ins {r : Prop} [Decidable r] {P : Pr} {f : Fn} {i : Ins} (h : insE r P f i = 0) : GoodI f.regs f.code.length i := by
  have hu := ins_used h
  have ho := ins_opnds h
  have o0 := ho 0 (by omega)
  have o1 := ho 1 (by omega)
  have o2 := ho 2 (by omega)
  have x0 : i.x 0 = i.a := rfl
  have x1 : i.x 1 = i.b := rfl
  have x2 : i.x 2 = i.c := rfl
  rw [x0] at o0
  rw [x1] at o1
  rw [x2] at o2
  have ha : (1 ≤ i.op ∧ i.op ≤ 36) ∨ i.op = 40 ∨ i.op = 41 ∨ i.op = 43 ∨ i.op = 44 → inR i.a f.regs := fun q => by
    have : lt i.op 0 = 114 := by
      rcases q with q | q | q | q | q
      · by_cases c : i.op ≤ 15
        · exact (ltOne _ ⟨q.1, c⟩).1
        · exact (ltTwo _ ⟨by omega, q.2⟩).1
      all_goals rw [q]; rfl
    rw [this] at o0
    exact opnd_r o0 (.inl rfl)
  have hb : (1 ≤ i.op ∧ i.op ≤ 36) ∨ i.op = 41 → inR i.b f.regs := fun q => by
    have : lt i.op 1 = 114 := by
      rcases q with q | q
      · by_cases c : i.op ≤ 15
        · exact (ltOne _ ⟨q.1, c⟩).2.1
        · exact (ltTwo _ ⟨by omega, q.2⟩).2.1
      · rw [q]; rfl
    rw [this] at o1
    exact opnd_r o1 (.inl rfl)
  refine ⟨ha, hb, fun q => ?_, fun q => ?_, fun q => ?_⟩
  · by_cases c : i.op ≤ 15
    · have h2 := (ltOne _ ⟨q.1, c⟩).2.2
      have hc : i.c = 0 := Classical.byContradiction fun e => hu (.inr (.inr (.inl ⟨h2, e⟩)))
      have := ha (.inl q)
      exact ⟨by omega, by omega⟩
    · rw [(ltTwo _ ⟨by omega, q.2⟩).2.2] at o2
      exact opnd_r o2 (.inl rfl)
  · rw [show lt i.op 0 = 116 by rw [q]; rfl] at o0
    exact opnd_t o0
  · rw [show lt i.op 1 = 116 by rw [q]; rfl] at o1
    exact opnd_t o1
theorem good_of {P : Pr} (h : (chk insP P).1 = 0) (f : Fn) (hf : f ∈ P.fns) : GoodC f.regs f.code := by
  obtain ⟨k, hk, hfk⟩ := List.getElem_of_mem hf
  have he := chk_each h k f (by rw [← hfk]; exact List.getElem?_eq_getElem hk)
  have hs := fnE_shaped he
  obtain ⟨_, h2, h3⟩ := chk_parts h f hf
  refine ⟨hs.1.1.1, hs.1.1.2, hs.1.2.2.1.1, hs.1.2.2.1.2, fun i hi => good_ins (h2 i hi), fun i hi => ?_⟩
  unfold lastOp at h3
  rw [List.getLast?_eq_getElem?, hi] at h3
  exact h3
/-- A place in the code, and the registers. -/
structure GrIn (code : List Ins) (g : Gr) : Prop where
  p0 : 0 ≤ g.pc
  p1 : g.pc < code.length
  rl : g.rg.length = 8
  ri : AllI g.rg
theorem insAt_mem {code : List Ins} {pc : Int} (h0 : 0 ≤ pc) (h1 : pc < code.length) : code[pc.toNat]? = some (insAt code pc) ∧ insAt code pc ∈ code := by
  have hl : pc.toNat < code.length := by omega
  unfold insAt
  rw [List.getD_eq_getElem?_getD, List.getElem?_eq_getElem hl]
  exact ⟨rfl, List.getElem_mem hl⟩
theorem AllI.set {l : List Int} (h : AllI l) (k : Nat) (x : Int) (hx : I64 x) : AllI (l.set k x) := fun y hy => by
  rcases List.mem_or_eq_of_mem_set hy with q | q
  · exact h y q
  · rw [q]; exact hx
theorem AllI.get {l : List Int} (h : AllI l) (k : Nat) : I64 (l.getD k 0) := by
  rw [List.getD_eq_getElem?_getD]
  by_cases c : k < l.length
  · rw [List.getElem?_eq_getElem c]; exact h _ (List.getElem_mem c)
  · rw [List.getElem?_eq_none (by omega)]; exact ⟨by decide, by decide⟩
theorem zero8_all : AllI zero8 := fun x hx => by
  have : x = 0 := by simpa [zero8] using hx
  rw [this]; exact ⟨by decide, by decide⟩
/-- What is behind one local instruction stands in the code. -/
theorem loc1_in {ap : Int → Int → Int → Int × Int} {rg : Int} {code : List Ins} (hc : GoodC rg code) {g : Gr} (hg : GrIn code g) (hl : locP (insAt code g.pc).op) (hn : I64 (insAt code g.pc).n)
    (ha : 1 ≤ (insAt code g.pc).op → (insAt code g.pc).op ≤ 36 → I64 (ap (insAt code g.pc).op (g.get (insAt code g.pc).b) (g.get (insAt code g.pc).c)).1) : GrIn code (loc1 ap g (insAt code g.pc)) := by
  obtain ⟨hm1, hm2⟩ := insAt_mem hg.p0 hg.p1
  have gi := hc.each _ hm2
  have gb := hg.ri.get
  have nx : ∀ (h : (insAt code g.pc).op ≠ 42 ∧ (insAt code g.pc).op ≠ 45), g.pc + 1 < code.length := fun h => by
    apply Classical.byContradiction
    intro q
    have hp1 := hg.p1
    have hp0 := hg.p0
    have e : g.pc.toNat = code.length - 1 := by omega
    rw [e] at hm1
    have := hc.last _ hm1
    omega
  have hp0 := hg.p0
  generalize insAt code g.pc = i at *
  unfold loc1
  repeat' split
  all_goals first
    | exact ⟨by show 0 ≤ g.pc + 1; omega, by show g.pc + 1 < _; exact nx (by omega), by simp [Gr.adv, Gr.set, hg.rl], by first | exact hg.ri.set _ _ hn | exact hg.ri.set _ _ (gb _) | exact hg.ri.set _ _ (ha (by omega) (by omega))⟩
    | exact ⟨(gi.j (by assumption)).1, (gi.j (by assumption)).2, hg.rl, hg.ri⟩
    | exact ⟨(gi.t (by assumption)).1, (gi.t (by assumption)).2, hg.rl, hg.ri⟩
    | exact ⟨by show 0 ≤ g.pc + 1; omega, by show g.pc + 1 < _; exact nx (by omega), hg.rl, hg.ri⟩
    | exact ⟨hg.p0, hg.p1, rfl, zero8_all⟩
end Go.Proofs.YtjcmhaaohdmjpaaDoor.pg
/- When a state is one of a program, as plain mathematics; what settling keeps. -/
namespace Go.Proofs.YtjcmhaaohdmjpaaDoor.pg
set_option linter.unusedVariables false
set_option linter.unusedSimpArgs false
/-- Nothing but noughts from a place on. -/
def tz (l : List Int) (k : Nat) : Prop := ∀ i, k ≤ i → l.getD i 0 = 0
/-- May an operation fail for a reason? -/
def failB (op why : Int) : Prop := (why = 1 ∧ op = 44) ∨ (why = 2 ∧ (op = 19 ∨ op = 20)) ∨ (why = 3 ∧ (op = 25 ∨ op = 26 ∨ op = 27)) ∨ (why = 4 ∧ (op = 58 ∨ op = 61)) ∨ (why = 5 ∧ op = 60) ∨ (why = 6 ∧ op = 56) ∨ (why = 7 ∧ op = 63) ∨ (why = 8 ∧ op = 62)
/-- Can a goroutine be so where it stands in its function? -/
def standF (f : Fn) (g : Gr) : Prop := 0 ≤ g.pc ∧ g.pc < f.code.length ∧
  (((g.st = 1 ∨ g.st = 2) ∧ g.why = 0 ∧ tz g.rg f.regs.toNat) ∨ (g.st = 5 ∧ g.why = 0 ∧ tz g.rg f.regs.toNat ∧ locP (insAt f.code g.pc).op) ∨
   (g.st = 3 ∧ g.why = 0 ∧ tz g.rg 0 ∧ (insAt f.code g.pc).op = 45) ∨ (g.st = 4 ∧ tz g.rg 0 ∧ failB (insAt f.code g.pc).op g.why))
def fnAt (P : Pr) (n : Int) : Fn := P.fns.getD n.toNat ⟨0, 0, [], []⟩
def stands (P : Pr) (g : Gr) : Prop := 0 ≤ g.fn ∧ g.fn < P.fns.length ∧ standF (fnAt P g.fn) g
/-- Can a channel be so by itself? -/
def holdsC (c : Chc) (room : Int) : Prop := 0 ≤ c.ln ∧ c.ln ≤ room ∧ tz c.buf c.ln.toNat ∧
  ((c.off = 0 ∧ c.frm = 0 ∧ c.val = 0) ∨ (c.off = 1 ∧ room = 0 ∧ c.shut = false) ∨ (c.off = 2 ∧ room = 0 ∧ c.val = 0) ∨ (c.off = 3 ∧ room = 0 ∧ c.val = 0 ∧ c.shut = true))
/-- Does a goroutine wait at a send on a channel? -/
def sendsC (P : Pr) (g : Gr) (n : Int) : Prop := g.st = 2 ∧ (insAt (fnAt P g.fn).code g.pc).op = 58 ∧ (insAt (fnAt P g.fn).code g.pc).a = n
def zeroG : Gr := ⟨0, 0, 0, 0, zero8⟩
def zeroC : Chc := ⟨[0, 0, 0, 0], 0, false, 0, 0, 0⟩
def goAt (s : Sts) (n : Int) : Gr := s.gos.getD n.toNat zeroG
def chAt (s : Sts) (n : Nat) : Chc := s.ch.getD n zeroC
/-- How many offers of the first k channels are a goroutine's. -/
def offs (s : Sts) (g : Int) : Nat → Int
  | 0 => 0
  | k + 1 => offs s g k + (if (chAt s k).off ≠ 0 ∧ (chAt s k).frm = g then 1 else 0)
structure fitsS (P : Pr) (s : Sts) : Prop where
  c1 : 1 ≤ s.cnt
  c6 : s.cnt ≤ 6
  g : ∀ i, s.cnt.toNat ≤ i → i < 6 → s.gos.getD i zeroG = zeroG
  v : tz s.vars P.vars.length
  o : tz s.own P.locks.toNat
  c : ∀ i, P.chans.length ≤ i → i < 4 → s.ch.getD i zeroC = zeroC
def offered (P : Pr) (s : Sts) : Prop := (∀ n, n < 4 → (chAt s n).off ≠ 0 → 0 ≤ (chAt s n).frm ∧ (chAt s n).frm < s.cnt ∧ sendsC P (goAt s (chAt s n).frm) n) ∧ ∀ g, g < 6 → (s.gos.getD g zeroG).st = 2 → offs s g 4 = 1
structure validS (P : Pr) (s : Sts) : Prop where
  r : (chk insP P).1 = 0
  f : fitsS P s
  g : ∀ i, i < s.cnt.toNat → stands P (s.gos.getD i zeroG)
  o : ∀ x ∈ s.own, 0 ≤ x ∧ x ≤ s.cnt
  h : ∀ n, n < P.chans.length → holdsC (chAt s n) (P.chans.getD n 0)
  w : offered P s
/-- A goroutine settled. -/
def settleG (ap : Int → Int → Int → Int × Int) (code : List Ins) (fuel : Nat) (g : Gr) : Gr := runG ap (fun o => decide (locP o)) code fuel (wake g)
theorem tz_set {l : List Int} {k a : Nat} {x : Int} (h : tz l k) (ha : a < k) : tz (l.set a x) k := fun i hi => by
  have := h i hi
  rw [List.getD_eq_getElem?_getD] at this ⊢
  rw [List.getElem?_set_ne (by omega)]
  exact this
theorem tz_mono {l : List Int} {k m : Nat} (h : tz l k) (hm : k ≤ m) : tz l m := fun i hi => h i (by omega)
theorem tz_zero8 (k : Nat) : tz zero8 k := fun i _ => by
  match i with
  | 0 | 1 | 2 | 3 | 4 | 5 | 6 | 7 => rfl
  | i + 8 => rfl
section
variable {ap : Int → Int → Int → Int × Int} (hap : ∀ k a b, 1 ≤ k → k ≤ 36 → I64 a → I64 b → I64 (ap k a b).1 ∧ ((ap k a b).2 = 20 → k = 19 ∨ k = 20) ∧ ((ap k a b).2 = 21 → k = 25 ∨ k = 26 ∨ k = 27))
include hap
/-- Behind one local instruction it can be so. -/
theorem loc1_stand {f : Fn} (hc : GoodC f.regs f.code) {g : Gr} (hg : GrIn f.code g) (h1 : g.st = 1) (h0 : g.why = 0) (ht : tz g.rg f.regs.toNat) (hl : locP (insAt f.code g.pc).op) (hn : I64 (insAt f.code g.pc).n) :
    GrIn f.code (loc1 ap g (insAt f.code g.pc)) ∧ (((loc1 ap g (insAt f.code g.pc)).st = 1 ∧ (loc1 ap g (insAt f.code g.pc)).why = 0 ∧ tz (loc1 ap g (insAt f.code g.pc)).rg f.regs.toNat) ∨
      ((loc1 ap g (insAt f.code g.pc)).st ≠ 1 ∧ (loc1 ap g (insAt f.code g.pc)).st ≠ 2 ∧ (loc1 ap g (insAt f.code g.pc)).st ≠ 5 ∧ standF f (loc1 ap g (insAt f.code g.pc)))) := by
  have hgb := hg.ri.get
  constructor
  · exact loc1_in hc hg hl hn fun q1 q2 => (hap _ _ _ q1 q2 (hgb _) (hgb _)).1
  · obtain ⟨hm1, hm2⟩ := insAt_mem hg.p0 hg.p1
    have gi := hc.each _ hm2
    have r0 := hc.r0
    have pe : ∀ (st why : Int), insAt f.code (g.end st why).pc = insAt f.code g.pc := fun _ _ => rfl
    have hst : ∀ (a x : Int), inR a f.regs → tz (g.rg.set a.toNat x) f.regs.toNat := fun a x ha => tz_set ht (by omega)
    have hap2 := hap (insAt f.code g.pc).op (g.get (insAt f.code g.pc).b) (g.get (insAt f.code g.pc).c)
    unfold loc1
    repeat' split
    all_goals first
      | exact .inl ⟨h1, h0, hst _ _ (gi.a (by omega))⟩
      | exact .inl ⟨h1, h0, ht⟩
      | (refine .inr ⟨by show (4 : Int) ≠ 1; decide, by show (4 : Int) ≠ 2; decide, by show (4 : Int) ≠ 5; decide, hg.p0, hg.p1, .inr (.inr (.inr ⟨rfl, tz_zero8 _, ?_⟩))⟩
         rw [pe]
         first
           | exact .inl ⟨rfl, by assumption⟩
           | exact .inr (.inl ⟨rfl, (hap2 (by omega) (by omega) (hgb _) (hgb _)).2.1 (by assumption)⟩)
           | exact .inr (.inr (.inl ⟨rfl, (hap2 (by omega) (by omega) (hgb _) (hgb _)).2.2 (by assumption)⟩)))
      | (refine .inr ⟨by show (3 : Int) ≠ 1; decide, by show (3 : Int) ≠ 2; decide, by show (3 : Int) ≠ 5; decide, hg.p0, hg.p1, .inr (.inr (.inl ⟨rfl, rfl, tz_zero8 _, ?_⟩))⟩
         rw [pe]
         assumption)
theorem runG_stand {f : Fn} (hc : GoodC f.regs f.code) (hn : ∀ i ∈ f.code, I64 i.n) : ∀ (n : Nat) {g : Gr}, GrIn f.code g → g.st = 1 → g.why = 0 → tz g.rg f.regs.toNat →
    GrIn f.code (runG ap (fun o => decide (locP o)) f.code n g) ∧ standF f (runG ap (fun o => decide (locP o)) f.code n g) ∧ (runG ap (fun o => decide (locP o)) f.code n g).st ≠ 2
  | n, g, hg, h1, h0, ht => by
    by_cases c : g.st = 1 ∧ decide (locP (insAt f.code g.pc).op) = true
    · have hl : locP (insAt f.code g.pc).op := of_decide_eq_true c.2
      cases n with
      | zero =>
        rw [runG_zero c]
        exact ⟨⟨hg.p0, hg.p1, hg.rl, hg.ri⟩, ⟨hg.p0, hg.p1, .inr (.inl ⟨rfl, h0, ht, hl⟩)⟩, by show (5 : Int) ≠ 2; decide⟩
      | succ n =>
        rw [runG_step c]
        obtain ⟨q1, q2⟩ := loc1_stand hap hc hg h1 h0 ht hl (hn _ (insAt_mem hg.p0 hg.p1).2)
        rcases q2 with ⟨a1, a2, a3⟩ | ⟨a1, a2, a3, a4⟩
        · exact runG_stand hc hn n q1 a1 a2 a3
        · rw [runG_stop (fun q => a1 q.1)]
          exact ⟨q1, a4, a2⟩
    · rw [runG_stop c]
      exact ⟨hg, ⟨hg.p0, hg.p1, .inl ⟨.inl h1, h0, ht⟩⟩, by omega⟩
end
end Go.Proofs.YtjcmhaaohdmjpaaDoor.pg
