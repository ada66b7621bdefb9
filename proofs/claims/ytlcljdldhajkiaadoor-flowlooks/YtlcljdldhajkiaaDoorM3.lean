/- Which registers an instruction reads and sets, as plain mathematics: by the letters of its form, and by the document's own table. -/
import Derived.Test.YtlcljdldhajkiaaDoorM2
import Derived.Test.YtlcljdldhajkiaaDoorM1
namespace Go.Proofs.YtlcljdldhajkiaaDoor.pg
set_option linter.unusedVariables false
set_option linter.unusedSimpArgs false
/-- The registers that are marked, rising, among the first k. -/
def upto (m : Nat → Bool) (k : Nat) : List Int := ((List.range k).filter m).map fun n : Nat => (n : Int)
theorem upto_yes {m : Nat → Bool} {k : Nat} (h : m k = true) : upto m (k + 1) = upto m k ++ [(k : Int)] := by simp [upto, List.range_succ, List.filter_append, h]
theorem upto_no {m : Nat → Bool} {k : Nat} (h : m k = false) : upto m (k + 1) = upto m k := by simp [upto, List.range_succ, List.filter_append, h]
theorem upto_len (m : Nat → Bool) (k : Nat) : (upto m k).length ≤ k := by
  unfold upto
  rw [List.length_map]
  exact Nat.le_trans (List.length_filter_le _ _) (by simp)
theorem upto_congr {m m' : Nat → Bool} {k : Nat} (h : ∀ n, n < k → m n = m' n) : upto m k = upto m' k := by
  unfold upto
  rw [List.filter_congr fun n hn => h n (List.mem_range.mp hn)]
theorem upto_mem {m : Nat → Bool} {k : Nat} {z : Int} (h : z ∈ upto m k) : ∃ n : Nat, z = n ∧ n < k ∧ m n = true := by
  unfold upto at h
  obtain ⟨n, hn, rfl⟩ := List.mem_map.mp h
  obtain ⟨h1, h2⟩ := List.mem_filter.mp hn
  exact ⟨n, rfl, List.mem_range.mp h1, h2⟩
theorem mem_upto {m : Nat → Bool} {k n : Nat} (h : n < k) (hm : m n = true) : (n : Int) ∈ upto m k :=
  List.mem_map.mpr ⟨n, List.mem_filter.mpr ⟨List.mem_range.mpr h, hm⟩, rfl⟩
theorem take_one {α : Type} (l : List α) (k : Nat) (x : α) (h : l[k]? = some x) : l.take (k + 1) = l.take k ++ [x] := by
  obtain ⟨hk, rfl⟩ := List.getElem?_eq_some_iff.mp h
  exact List.take_succ_eq_append_getElem hk
/-- Marked: what a list has. -/
def inl (l : List Int) : Nat → Bool := fun n => decide ((n : Int) ∈ l)
theorem inl_nil (n : Nat) : inl [] n = false := by simp [inl]
theorem inl_snoc (l : List Int) (x : Int) (n : Nat) : inl (l ++ [x]) n = (inl l n || decide ((n : Int) = x)) := by
  simp [inl]
theorem inl_congr {l l' : List Int} {k : Nat} (h : ∀ n : Nat, n < k → ((n : Int) ∈ l ↔ (n : Int) ∈ l')) : upto (inl l) k = upto (inl l') k :=
  upto_congr fun n hn => by unfold inl; exact decide_eq_decide.mpr (h n hn)
abbrev firstSet (op : Int) : Prop := ¬ (op = 43 ∨ op = 44 ∨ op = 63 ∨ op = 65)
def Fn.sends (f : Fn) (x : Int) : List Int := match f.sels[x.toNat]? with | some s => (s.cases.filter fun c => c.send).map Cas.reg | none => []
def Fn.takes (f : Fn) (x : Int) : List Int := match f.sels[x.toNat]? with | some s => (s.cases.filter fun c => !c.send && decide (c.reg ≠ -1)).map Cas.reg | none => []
def Fn.takesR (f : Fn) (x : Int) : List Int := match f.sels[x.toNat]? with | some s => (s.cases.filter fun c => !c.send).map Cas.reg | none => []
def from_ (c : Int) (k : Nat) : List Int := (List.range k).map fun n : Nat => c + (n : Int)
theorem from_snoc (c : Int) (j : Nat) : from_ c (j + 1) = from_ c j ++ [c + (j : Int)] := by simp [from_, List.range_succ]
/-- What one operand's letter adds. -/
def tstep (P : Pr) (f : Fn) (i : Ins) (k : Nat) (q : List Int × List Int) : List Int × List Int :=
  if lt i.op k = 114 then (if k = 0 ∧ firstSet i.op then (q.1, q.2 ++ [i.x k]) else (q.1 ++ [i.x k], q.2)) else
  if lt i.op k = 119 then (q.1 ++ [i.x k], q.2) else
  if lt i.op k = 111 then (if i.x k = -1 then q else (q.1, q.2 ++ [i.x k])) else
  if lt i.op k = 112 then (q.1 ++ from_ i.c (P.par i.b).toNat, q.2) else
  if lt i.op k = 115 then (f.sends (i.x k), f.takes (i.x k)) else q
def touchTo (P : Pr) (f : Fn) (i : Ins) : Nat → List Int × List Int
  | 0 => ([], [])
  | k + 1 => tstep P f i k (touchTo P f i k)
/-- The document's own lists. -/
def rdL (P : Pr) (f : Fn) (i : Ins) : List Int :=
  if i.op ≤ 15 ∨ i.op = 41 then [i.b] else if i.op ≤ 36 then [i.b, i.c] else if i.op = 43 ∨ i.op = 44 ∨ i.op = 63 ∨ i.op = 65 then [i.a] else
  if i.op = 51 ∨ i.op = 54 ∨ i.op = 58 then [i.b] else if i.op = 52 then [i.c] else if i.op = 53 then [i.c, i.n] else if i.op = 61 then f.sends i.a else if i.op = 62 then from_ i.c (P.par i.b).toNat else []
def stL (f : Fn) (i : Ins) : List Int :=
  if i.op ≤ 41 ∨ i.op = 50 ∨ i.op = 52 ∨ i.op = 53 ∨ i.op = 57 ∨ i.op = 62 then [i.a] else if i.op = 59 then [i.a, i.c] else if i.op = 61 then f.takesR i.a else []
/-- The operations. -/
theorem ops_of {op : Int} (h : known op) : (1 ≤ op ∧ op ≤ 15) ∨ (16 ≤ op ∧ op ≤ 36) ∨ op = 40 ∨ op = 41 ∨ op = 42 ∨ op = 43 ∨ op = 44 ∨ op = 45 ∨ op = 50 ∨ op = 51 ∨ op = 52 ∨ op = 53 ∨ op = 54 ∨ op = 55 ∨ op = 56 ∨ op = 57 ∨ op = 58 ∨ op = 59 ∨ op = 60 ∨ op = 61 ∨ op = 62 ∨ op = 63 ∨ op = 64 ∨ op = 65 := by
  apply Classical.byContradiction
  intro q
  apply h
  unfold formOf
  repeat rw [if_neg (by omega)]
theorem lt_one {op : Int} (h : 1 ≤ op ∧ op ≤ 15) : lt op 0 = 114 ∧ lt op 1 = 114 ∧ lt op 2 = 45 ∧ lt op 3 = 45 := by simp [lt, formOf, h]
theorem lt_two {op : Int} (h : 16 ≤ op ∧ op ≤ 36) : lt op 0 = 114 ∧ lt op 1 = 114 ∧ lt op 2 = 114 ∧ lt op 3 = 45 := by
  have : ¬ op ≤ 15 := by omega
  simp [lt, formOf, h, this]
theorem takes_mem (f : Fn) (x : Int) (n : Nat) : (n : Int) ∈ f.takes x ↔ (n : Int) ∈ f.takesR x := by
  unfold Fn.takes Fn.takesR
  split
  · simp only [List.mem_map, List.mem_filter]
    constructor
    · rintro ⟨c, ⟨h1, h2⟩, h3⟩
      exact ⟨c, ⟨h1, by simp at h2; simp [h2.1]⟩, h3⟩
    · rintro ⟨c, ⟨h1, h2⟩, h3⟩
      refine ⟨c, ⟨h1, ?_⟩, h3⟩
      have : c.reg ≠ -1 := by omega
      simp at h2
      simp [h2, this]
  · exact Iff.rfl
set_option maxHeartbeats 2000000 in
/-- By the letters and by the document's own table: the same registers. -/
theorem touch_agree (P : Pr) (f : Fn) (i : Ins) (h : known i.op) : ∀ n : Nat, ((n : Int) ∈ (touchTo P f i 4).1 ↔ (n : Int) ∈ rdL P f i) ∧ ((n : Int) ∈ (touchTo P f i 4).2 ↔ (n : Int) ∈ stL f i) := by
  intro n
  have hn : ∀ z : Int, z = -1 → ¬ (n : Int) = z := by intro z hz; omega
  rcases ops_of h with h | h | h | h | h | h | h | h | h | h | h | h | h | h | h | h | h | h | h | h | h | h | h | h
  · obtain ⟨l0, l1, l2, l3⟩ := lt_one h
    have e : firstSet i.op := by unfold firstSet; omega
    simp only [touchTo, tstep, l0, l1, l2, l3, if_pos (And.intro rfl e), rdL, stL, Ins.x, show i.op ≤ 15 from h.2, show i.op ≤ 41 by omega]
    simp [show ¬ i.op = 43 by omega, show ¬ i.op = 44 by omega, show ¬ i.op = 63 by omega, show ¬ i.op = 65 by omega]
  · obtain ⟨l0, l1, l2, l3⟩ := lt_two h
    have e : firstSet i.op := by unfold firstSet; omega
    simp only [touchTo, tstep, l0, l1, l2, l3, if_pos (And.intro rfl e), rdL, stL, Ins.x, show ¬ i.op ≤ 15 by omega, show ¬ i.op = 41 by omega, show i.op ≤ 36 from h.2, show i.op ≤ 41 by omega]
    simp [show ¬ i.op = 43 by omega, show ¬ i.op = 44 by omega, show ¬ i.op = 63 by omega, show ¬ i.op = 65 by omega]
  all_goals (simp [touchTo, tstep, lt, formOf, h, firstSet, rdL, stL, Ins.x])
  · by_cases ha : i.a = -1 <;> simp [ha, hn]
  · by_cases ha : i.a = -1 <;> by_cases hc : i.c = -1 <;> simp [ha, hc, hn]
  · exact takes_mem f i.a n
  · by_cases ha : i.a = -1 <;> simp [ha, hn]
theorem upto_count (m : Nat → Bool) (k : Nat) : (upto m k).length = (List.range k).countP m := by
  unfold upto; rw [List.length_map, List.countP_eq_length_filter]
theorem count_at (x : Int) (k : Nat) : (List.range k).countP (fun n : Nat => decide ((n : Int) = x)) = if 0 ≤ x ∧ x < k then 1 else 0 := by
  induction k with
  | zero => simp
  | succ k ih =>
    rw [List.range_succ, List.countP_append, ih]
    by_cases h : (k : Int) = x
    · rw [if_neg (by omega), if_pos (by omega)]; simp [h]
    · by_cases h2 : 0 ≤ x ∧ x < k
      · rw [if_pos h2, if_pos (by omega)]; simp [h]
      · rw [if_neg h2, if_neg (by omega)]; simp [h]
theorem count_or (p q : Nat → Bool) (l : List Nat) : l.countP (fun n => p n || q n) ≤ l.countP p + l.countP q := by
  induction l with
  | nil => simp
  | cons x t ih =>
    rw [List.countP_cons, List.countP_cons, List.countP_cons]
    cases p x <;> cases q x <;> simp <;> omega
theorem inl_cons (x : Int) (l : List Int) (n : Nat) : inl (x :: l) n = (decide ((n : Int) = x) || inl l n) := by
  simp [inl]
theorem upto_inl_len (l : List Int) (k : Nat) : (upto (inl l) k).length ≤ l.length := by
  rw [upto_count]
  induction l with
  | nil => simp [inl]
  | cons x t ih =>
    have h1 : inl (x :: t) = fun n : Nat => decide ((n : Int) = x) || inl t n := funext fun n => inl_cons x t n
    rw [h1]
    have h2 : (List.range k).countP (fun n : Nat => decide ((n : Int) = x) || inl t n) ≤ _ := count_or (fun n : Nat => decide ((n : Int) = x)) (inl t) (List.range k)
    rw [count_at] at h2
    rw [List.length_cons]
    split at h2 <;> omega
theorem upto_pos {l : List Int} {k : Nat} {x : Int} (h : x ∈ l) (h0 : 0 ≤ x) (hk : x < k) : 0 < (upto (inl l) k).length := by
  have : ((x.toNat : Nat) : Int) ∈ upto (inl l) k := mem_upto (by omega) (by unfold inl; rw [decide_eq_true_iff]; rw [Int.toNat_of_nonneg h0]; exact h)
  exact List.length_pos_of_mem this
/-- Rising. -/
theorem upto_rise (m : Nat → Bool) (k : Nat) : (upto m k).Pairwise (· < ·) := by
  unfold upto
  refine List.Pairwise.map _ (fun a b h => ?_) ((List.Pairwise.filter _ List.pairwise_lt_range))
  exact Int.ofNat_lt.mpr h
/-- How many operands are registers. -/
def isR (op : Int) (k : Nat) : Nat := if lt op k = 114 ∨ lt op k = 119 then 1 else 0
def regsN (op : Int) : Nat → Nat
  | 0 => 0
  | k + 1 => regsN op k + isR op k
set_option maxHeartbeats 2000000 in
theorem touch_few (P : Pr) (f : Fn) (i : Ins) (h : known i.op) (h1 : i.op ≠ 61) (h2 : i.op ≠ 62) : (touchTo P f i 4).1.length + (touchTo P f i 4).2.length ≤ regsN i.op 4 + 2 := by
  rcases ops_of h with h | h | h | h | h | h | h | h | h | h | h | h | h | h | h | h | h | h | h | h | h | h | h | h
  · obtain ⟨l0, l1, l2, l3⟩ := lt_one h
    simp only [touchTo, tstep, l0, l1, l2, l3, regsN, isR, Ins.x]
    simp [show ¬ i.op = 43 by omega, show ¬ i.op = 44 by omega, show ¬ i.op = 63 by omega, show ¬ i.op = 65 by omega]
  · obtain ⟨l0, l1, l2, l3⟩ := lt_two h
    simp only [touchTo, tstep, l0, l1, l2, l3, regsN, isR, Ins.x]
    simp [show ¬ i.op = 43 by omega, show ¬ i.op = 44 by omega, show ¬ i.op = 63 by omega, show ¬ i.op = 65 by omega]
  all_goals (simp [touchTo, tstep, lt, formOf, h, firstSet, regsN, isR, Ins.x] at *)
  all_goals (by_cases ha : i.a = -1 <;> by_cases hc : i.c = -1 <;> simp [ha, hc])
/-- The operands' letters of a right instruction. -/
theorem ins_known {r : Prop} [Decidable r] {P : Pr} {f : Fn} {i : Ins} (h : insE r P f i = 0) : known i.op := by
  apply Classical.byContradiction
  intro q
  unfold insE at h
  rw [if_neg q] at h
  simp at h
theorem fst4_zero {a b c d : Int} (h : fst4 a b c d = 0) : a = 0 ∧ b = 0 ∧ c = 0 ∧ d = 0 := by
  unfold fst4 at h
  split at h
  · rename_i h1
    split at h
    · rename_i h2
      split at h
      · rename_i h3; exact ⟨h1, h2, h3, h⟩
      · rename_i h3; exact absurd h h3
    · rename_i h2; exact absurd h h2
  · rename_i h1; exact absurd h h1
theorem ins_opnds {r : Prop} [Decidable r] {P : Pr} {f : Fn} {i : Ins} (h : insE r P f i = 0) : ∀ k, k < 4 → opndE r P f (lt i.op k) (i.x k) = 0 := by
  have hk := ins_known h
  unfold insE at h
  rw [if_pos hk] at h
  by_cases hu : unused i
  · rw [if_pos hu] at h; simp at h
  · rw [if_neg hu] at h
    obtain ⟨h0, h1, h2, h3⟩ := fst4_zero h
    intro k hk4
    have : k = 0 ∨ k = 1 ∨ k = 2 ∨ k = 3 := by omega
    rcases this with rfl | rfl | rfl | rfl
    · exact h0
    · exact h1
    · exact h2
    · exact h3
theorem opnd_r {r : Prop} [Decidable r] {P : Pr} {f : Fn} {l x : Int} (h : opndE r P f l x = 0) (hl : l = 114 ∨ l = 119) : inR x f.regs := by
  apply Classical.byContradiction
  intro q
  unfold opndE at h
  rw [if_neg (by omega), if_pos (by omega), if_neg q] at h
  simp at h
theorem opnd_o {r : Prop} [Decidable r] {P : Pr} {f : Fn} {x : Int} (h : opndE r P f 111 x = 0) : x = -1 ∨ inR x f.regs := by
  by_cases hx : x = -1
  · exact .inl hx
  · refine .inr (Classical.byContradiction fun q => ?_)
    unfold opndE at h
    rw [if_neg (by omega), if_pos (by omega), if_neg q] at h
    simp at h
theorem opnd_p {r : Prop} [Decidable r] {P : Pr} {f : Fn} {x : Int} (h : opndE r P f 112 x = 0) : r := by
  apply Classical.byContradiction
  intro q
  unfold opndE at h
  rw [if_neg (by omega), if_neg (by omega), if_pos rfl, if_neg q] at h
  simp at h
theorem opnd_s {r : Prop} [Decidable r] {P : Pr} {f : Fn} {x : Int} (h : opndE r P f 115 x = 0) : inR x f.sels.length := by
  apply Classical.byContradiction
  intro q
  unfold opndE at h
  simp [q] at h
theorem opnd_f {r : Prop} [Decidable r] {P : Pr} {f : Fn} {x : Int} (h : opndE r P f 102 x = 0) : inR x P.fns.length := by
  apply Classical.byContradiction
  intro q
  unfold opndE at h
  simp [q] at h
theorem opnd_t {r : Prop} [Decidable r] {P : Pr} {f : Fn} {x : Int} (h : opndE r P f 116 x = 0) : inR x f.code.length := by
  apply Classical.byContradiction
  intro q
  unfold opndE at h
  simp [q] at h
theorem room_from {k c regs : Int} (h : roomP k c regs) (hk : 0 ≤ k) : (k = 0 ∧ c = 0) ∨ 0 ≤ c ∧ c + k ≤ regs := by
  unfold roomP at h
  by_cases h0 : k = 0
  · rw [if_pos h0] at h; exact .inl ⟨h0, h⟩
  · rw [if_neg h0] at h
    by_cases hc : c < 0
    · rw [if_pos hc] at h; exact h.elim
    · rw [if_neg hc] at h; exact .inr ⟨by omega, h⟩
theorem cas_reg {P : Pr} {f : Fn} {c : Cas} (h : casE P f c = 0) : inR c.reg f.regs ∨ c.reg = -1 ∧ c.send = false := by
  apply Classical.byContradiction
  intro q
  unfold casE at h
  by_cases h1 : inR c.ch P.chans.length
  · rw [if_pos h1, if_neg q] at h; simp at h
  · rw [if_neg h1] at h; simp at h
theorem cas_to {P : Pr} {f : Fn} {c : Cas} (h : casE P f c = 0) : inR c.to f.code.length ∧ inR c.ch P.chans.length := by
  unfold casE at h
  by_cases h1 : inR c.ch P.chans.length
  · rw [if_pos h1] at h
    by_cases h2 : inR c.reg f.regs ∨ c.reg = -1 ∧ c.send = false
    · rw [if_pos h2] at h
      by_cases h3 : c.send = true ∧ P.room c.ch = 0
      · rw [if_pos h3] at h; simp at h
      · rw [if_neg h3] at h
        by_cases h4 : inR c.to f.code.length
        · exact ⟨h4, h1⟩
        · rw [if_neg h4] at h; simp at h
    · rw [if_neg h2] at h; simp at h
  · rw [if_neg h1] at h; simp at h
theorem sel_els {P : Pr} {f : Fn} {s : Sel} (h : selE P f s = 0) : (∀ c ∈ s.cases, casE P f c = 0) ∧ (s.els = -1 ∨ inR s.els f.code.length) := by
  unfold selE at h
  by_cases h1 : firstE (casE P f) s.cases = 0
  · rw [if_pos h1] at h
    refine ⟨(firstE_iff _ _).mp h1, ?_⟩
    apply Classical.byContradiction
    intro q
    rw [if_neg q] at h
    simp at h
  · rw [if_neg h1] at h; exact absurd h h1
/-- A right function's parts. -/
theorem fn_parts {ins : Pr → Fn → Ins → Int} {P : Pr} {n : Nat} {f : Fn} (h : (fnE ins P n f).1 = 0) : (∀ s ∈ f.sels, selE P f s = 0) ∧ (∀ i ∈ f.code, ins P f i = 0) ∧ ends (lastOp f) := by
  have hs := fnE_shaped h
  unfold fnE at h
  rw [if_pos hs] at h
  by_cases h1 : firstE (selE P f) f.sels = 0
  · rw [if_pos h1] at h
    by_cases h2 : firstE (ins P f) f.code = 0
    · rw [if_pos h2] at h
      refine ⟨(firstE_iff _ _).mp h1, (firstE_iff _ _).mp h2, ?_⟩
      apply Classical.byContradiction
      intro q
      rw [if_neg q] at h
      simp at h
    · rw [if_neg h2] at h
      simp only [firstAt_fst] at h
      exact absurd h h2
  · rw [if_neg h1] at h; exact absurd h h1
theorem chk_parts {ins : Pr → Fn → Ins → Int} {P : Pr} (h : (chk ins P).1 = 0) (f : Fn) (hf : f ∈ P.fns) : (∀ s ∈ f.sels, selE P f s = 0) ∧ (∀ i ∈ f.code, ins P f i = 0) ∧ ends (lastOp f) := by
  obtain ⟨i, hi, rfl⟩ := List.getElem_of_mem hf
  exact fn_parts (chk_each h i _ (List.getElem?_eq_getElem hi))
end Go.Proofs.YtlcljdldhajkiaaDoor.pg
/- What a right program's code is, for one that is run: registers and places are there. -/
namespace Go.Proofs.YtlcljdldhajkiaaDoor.pg
set_option linter.unusedVariables false
set_option linter.unusedSimpArgs false
/-- A local operation. -/
abbrev locP (op : Int) : Prop := (1 ≤ op ∧ op ≤ 36) ∨ (40 ≤ op ∧ op ≤ 45)
structure GoodI (rg : Int) (n : Nat) (i : Ins) : Prop where
  a : (1 ≤ i.op ∧ i.op ≤ 36) ∨ i.op = 40 ∨ i.op = 41 ∨ i.op = 43 ∨ i.op = 44 → inR i.a rg
  b : (1 ≤ i.op ∧ i.op ≤ 36) ∨ i.op = 41 → inR i.b rg
  c : (1 ≤ i.op ∧ i.op ≤ 36) → inR i.c rg
  j : i.op = 42 → inR i.a n
  t : i.op = 43 → inR i.b n
structure GoodC (rg : Int) (code : List Ins) : Prop where
  r0 : 0 ≤ rg
  r8 : rg ≤ 8
  l1 : 1 ≤ code.length
  l64 : code.length ≤ 64
  each : ∀ i ∈ code, GoodI rg code.length i
  last : ∀ i, code[code.length - 1]? = some i → i.op = 42 ∨ i.op = 45 ∨ i.op = 61
theorem ltOne (op : Int) (h : (1 ≤ op ∧ op ≤ 15)) : lt op 0 = 114 ∧ lt op 1 = 114 ∧ lt op 2 = 45 := by unfold lt formOf; rw [if_pos h]; exact ⟨rfl, rfl, rfl⟩
theorem ltTwo (op : Int) (h : (16 ≤ op ∧ op ≤ 36)) : lt op 0 = 114 ∧ lt op 1 = 114 ∧ lt op 2 = 114 := by unfold lt formOf; rw [if_neg (by omega), if_pos h]; exact ⟨rfl, rfl, rfl⟩
theorem ins_used {r : Prop} [Decidable r] {P : Pr} {f : Fn} {i : Ins} (h : insE r P f i = 0) : ¬ unused i := by
  intro q
  have hk := ins_known h
  unfold insE at h
  rw [if_pos hk, if_pos q] at h
  simp at h
theorem good_ins {r : Prop} [Decidable r] {P : Pr} {f : Fn} {i : Ins} (h : insE r P f i = 0) : GoodI f.regs f.code.length i := by
  have hu := ins_used h
  have ho := ins_opnds h
  have o0 := ho 0 (by omega)
  have o1 := ho 1 (by omega)
  have o2 := ho 2 (by omega)
  have x0 : i.x 0 = i.a := rfl
  have x1 : i.x 1 = i.b := rfl
  have x2 : i.x 2 = i.c := rfl
  rw [x0] at o0
  rw [x1] at o1
  rw [x2] at o2
  have ha : (1 ≤ i.op ∧ i.op ≤ 36) ∨ i.op = 40 ∨ i.op = 41 ∨ i.op = 43 ∨ i.op = 44 → inR i.a f.regs := fun q => by
    have : lt i.op 0 = 114 := by
      rcases q with q | q | q | q | q
      · by_cases c : i.op ≤ 15
        · exact (ltOne _ ⟨q.1, c⟩).1
        · exact (ltTwo _ ⟨by omega, q.2⟩).1
      all_goals rw [q]; rfl
    rw [this] at o0
    exact opnd_r o0 (.inl rfl)
  have hb : (1 ≤ i.op ∧ i.op ≤ 36) ∨ i.op = 41 → inR i.b f.regs := fun q => by
    have : lt i.op 1 = 114 := by
      rcases q with q | q
      · by_cases c : i.op ≤ 15
        · exact (ltOne _ ⟨q.1, c⟩).2.1
        · exact (ltTwo _ ⟨by omega, q.2⟩).2.1
      · rw [q]; rfl
    rw [this] at o1
    exact opnd_r o1 (.inl rfl)
  refine ⟨ha, hb, fun q => ?_, fun q => ?_, fun q => ?_⟩
  · by_cases c : i.op ≤ 15
    · have h2 := (ltOne _ ⟨q.1, c⟩).2.2
      have hc : i.c = 0 := Classical.byContradiction fun e => hu (.inr (.inr (.inl ⟨h2, e⟩)))
      have := ha (.inl q)
      exact ⟨by omega, by omega⟩
    · rw [(ltTwo _ ⟨by omega, q.2⟩).2.2] at o2
      exact opnd_r o2 (.inl rfl)
  · rw [show lt i.op 0 = 116 by rw [q]; rfl] at o0
    exact opnd_t o0
  · rw [show lt i.op 1 = 116 by rw [q]; rfl] at o1
    exact opnd_t o1
theorem good_of {P : Pr} (h : (chk insP P).1 = 0) (f : Fn) (hf : f ∈ P.fns) : GoodC f.regs f.code := by
  obtain ⟨k, hk, hfk⟩ := List.getElem_of_mem hf
  have he := chk_each h k f (by rw [← hfk]; exact List.getElem?_eq_getElem hk)
  have hs := fnE_shaped he
  obtain ⟨_, h2, h3⟩ := chk_parts h f hf
  refine ⟨hs.1.1.1, hs.1.1.2, hs.1.2.2.1.1, hs.1.2.2.1.2, fun i hi => good_ins (h2 i hi), fun i hi => ?_⟩
  unfold lastOp at h3
  rw [List.getLast?_eq_getElem?, hi] at h3
  exact h3
/-- A place in the code, and the registers. -/
structure GrIn (code : List Ins) (g : Gr) : Prop where
  p0 : 0 ≤ g.pc
  p1 : g.pc < code.length
  rl : g.rg.length = 8
  ri : AllI g.rg
theorem insAt_mem {code : List Ins} {pc : Int} (h0 : 0 ≤ pc) (h1 : pc < code.length) : code[pc.toNat]? = some (insAt code pc) ∧ insAt code pc ∈ code := by
  have hl : pc.toNat < code.length := by omega
  unfold insAt
  rw [List.getD_eq_getElem?_getD, List.getElem?_eq_getElem hl]
  exact ⟨rfl, List.getElem_mem hl⟩
theorem AllI.set {l : List Int} (h : AllI l) (k : Nat) (x : Int) (hx : I64 x) : AllI (l.set k x) := fun y hy => by
  rcases List.mem_or_eq_of_mem_set hy with q | q
  · exact h y q
  · rw [q]; exact hx
theorem AllI.get {l : List Int} (h : AllI l) (k : Nat) : I64 (l.getD k 0) := by
  rw [List.getD_eq_getElem?_getD]
  by_cases c : k < l.length
  · rw [List.getElem?_eq_getElem c]; exact h _ (List.getElem_mem c)
  · rw [List.getElem?_eq_none (by omega)]; exact ⟨by decide, by decide⟩
theorem zero8_all : AllI zero8 := fun x hx => by
  have : x = 0 := by simpa [zero8] using hx
  rw [this]; exact ⟨by decide, by decide⟩
/-- What is behind one local instruction stands in the code. -/
theorem loc1_in {ap : Int → Int → Int → Int × Int} {rg : Int} {code : List Ins} (hc : GoodC rg code) {g : Gr} (hg : GrIn code g) (hl : locP (insAt code g.pc).op) (hn : I64 (insAt code g.pc).n)
    (ha : 1 ≤ (insAt code g.pc).op → (insAt code g.pc).op ≤ 36 → I64 (ap (insAt code g.pc).op (g.get (insAt code g.pc).b) (g.get (insAt code g.pc).c)).1) : GrIn code (loc1 ap g (insAt code g.pc)) := by
  obtain ⟨hm1, hm2⟩ := insAt_mem hg.p0 hg.p1
  have gi := hc.each _ hm2
  have gb := hg.ri.get
  have nx : ∀ (h : (insAt code g.pc).op ≠ 42 ∧ (insAt code g.pc).op ≠ 45), g.pc + 1 < code.length := fun h => by
    apply Classical.byContradiction
    intro q
    have hp1 := hg.p1
    have hp0 := hg.p0
    have e : g.pc.toNat = code.length - 1 := by omega
    rw [e] at hm1
    have := hc.last _ hm1
    omega
  have hp0 := hg.p0
  generalize insAt code g.pc = i at *
  unfold loc1
  repeat' split
  all_goals first
    | exact ⟨by show 0 ≤ g.pc + 1; omega, by show g.pc + 1 < _; exact nx (by omega), by simp [Gr.adv, Gr.set, hg.rl], by first | exact hg.ri.set _ _ hn | exact hg.ri.set _ _ (gb _) | exact hg.ri.set _ _ (ha (by omega) (by omega))⟩
    | exact ⟨(gi.j (by assumption)).1, (gi.j (by assumption)).2, hg.rl, hg.ri⟩
    | exact ⟨(gi.t (by assumption)).1, (gi.t (by assumption)).2, hg.rl, hg.ri⟩
    | exact ⟨by show 0 ≤ g.pc + 1; omega, by show g.pc + 1 < _; exact nx (by omega), hg.rl, hg.ri⟩
    | exact ⟨hg.p0, hg.p1, rfl, zero8_all⟩
end Go.Proofs.YtlcljdldhajkiaaDoor.pg
/- What may come behind an instruction, and be come to from it: as plain mathematics. -/
namespace Go.Proofs.YtlcljdldhajkiaaDoor.pg
set_option linter.unusedVariables false
set_option linter.unusedSimpArgs false
def selAt (f : Fn) (n : Int) : Sel := f.sels.getD n.toNat ⟨[], -1⟩
/-- Where a select may go on. -/
def selTo (s : Sel) : List Int := s.cases.map Cas.to ++ (if s.els = -1 then [] else [s.els])
/-- The places behind an instruction, as they are handed out. -/
def nxtI (f : Fn) (i : Ins) (pc : Nat) : List Int :=
  if i.op = 45 then [] else if i.op = 42 then [i.a] else if i.op = 61 then selTo (selAt f i.a) else if i.op = 43 then [i.b, (pc : Int) + 1] else [(pc : Int) + 1]
def nxt (f : Fn) (pc : Nat) : List Int := nxtI f (insAt f.code pc) pc
/-- A function of a right program, as far as this goes. -/
structure FlowF (f : Fn) : Prop where
  l1 : 1 ≤ f.code.length
  l64 : f.code.length ≤ 64
  n : ∀ pc, pc < f.code.length → ∀ x ∈ nxt f pc, 0 ≤ x ∧ x < f.code.length
  s : ∀ pc, pc < f.code.length → (insAt f.code pc).op = 61 → inR (insAt f.code pc).a f.sels.length
  c : ∀ s ∈ f.sels, s.cases.length ≤ 4
theorem shaped_of {P : Pr} (h : (chk insP P).1 = 0) (f : Fn) (hf : f ∈ P.fns) : shaped f := by
  obtain ⟨k, hk, hfk⟩ := List.getElem_of_mem hf
  exact (fnE_shaped (chk_each h k f (by rw [← hfk]; exact List.getElem?_eq_getElem hk))).1
theorem flow_of {P : Pr} (h : (chk insP P).1 = 0) (f : Fn) (hf : f ∈ P.fns) : FlowF f := by
  have hg := good_of h f hf
  obtain ⟨h1, h2, h3⟩ := chk_parts h f hf
  have hsh := shaped_of h f hf
  have hs : ∀ pc, pc < f.code.length → (insAt f.code pc).op = 61 → inR (insAt f.code pc).a f.sels.length := fun pc hp h61 => by
    have hm := (insAt_mem (code := f.code) (pc := (pc : Int)) (by omega) (by omega)).2
    have := ins_opnds (h2 _ hm) 0 (by omega)
    rw [h61, show lt 61 0 = 115 from rfl] at this
    exact opnd_s this
  refine ⟨hg.l1, hg.l64, fun pc hp x hx => ?_, hs, fun s hs => (hsh.2.2.2.2 s hs).2⟩
  have hm := (insAt_mem (code := f.code) (pc := (pc : Int)) (by omega) (by omega)).2
  have hgi := hg.each _ hm
  have hlast : ¬ ends (insAt f.code pc).op → (pc : Int) + 1 < f.code.length := fun hne => by
    apply Classical.byContradiction
    intro hn
    have hpc : pc = f.code.length - 1 := by omega
    have hl : lastOp f = (insAt f.code pc).op := by
      unfold lastOp insAt
      rw [List.getLast?_eq_getElem?, hpc, List.getD_eq_getElem?_getD, Int.toNat_natCast, List.getElem?_eq_getElem (by omega)]
      rfl
    exact hne (hl ▸ h3)
  unfold nxt nxtI at hx
  split at hx
  · simp at hx
  · split at hx
    · rename_i h42
      simp only [List.mem_singleton] at hx
      subst hx
      exact hgi.j h42
    · split at hx
      · rename_i h61
        have hr := hs pc hp h61
        have hsm : selAt f (insAt f.code pc).a ∈ f.sels := by
          unfold selAt
          rw [List.getD_eq_getElem?_getD, List.getElem?_eq_getElem (by have := hr.1; have := hr.2; omega)]
          exact List.getElem_mem _
        obtain ⟨q1, q2⟩ := sel_els (h1 _ hsm)
        unfold selTo at hx
        rw [List.mem_append] at hx
        rcases hx with hx | hx
        · obtain ⟨c, hc, rfl⟩ := List.mem_map.mp hx
          exact (cas_to (q1 c hc)).1
        · split at hx
          · simp at hx
          · simp only [List.mem_singleton] at hx
            subst hx
            rcases q2 with q | q
            · rename_i hq _
              exact absurd q (by assumption)
            · exact q
      · split at hx
        · rename_i h45 h42 h61 h43
          rcases List.mem_cons.mp hx with hx | hx
          · subst hx; exact hgi.t h43
          · simp only [List.mem_singleton] at hx
            subst hx
            exact ⟨by omega, hlast (by unfold ends; omega)⟩
        · simp only [List.mem_singleton] at hx
          subst hx
          exact ⟨by omega, hlast (by unfold ends; omega)⟩
/-- Places marked. -/
def puts (s : Nat → Bool) (l : List Int) : Nat → Bool := fun k => s k || decide ((k : Int) ∈ l)
theorem puts_nil (s : Nat → Bool) : puts s [] = s := by funext k; simp [puts]
theorem puts_app (s : Nat → Bool) (l m : List Int) : puts (puts s l) m = puts s (l ++ m) := by
  funext k
  unfold puts
  rw [Bool.or_assoc]
  congr 1
  rw [Bool.eq_iff_iff]
  simp [List.mem_append]
/-- The places behind some of the first m. -/
def bAll (f : Fn) (s : Nat → Bool) : Nat → Nat → Bool
  | 0 => fun _ => false
  | m + 1 => if s m = true then puts (bAll f s m) (nxt f m) else bAll f s m
theorem bAll_iff (f : Fn) (s : Nat → Bool) (k : Nat) : ∀ m, bAll f s m k = true ↔ ∃ pc, pc < m ∧ s pc = true ∧ (k : Int) ∈ nxt f pc
  | 0 => by simp [bAll]
  | m + 1 => by
    have ih := bAll_iff f s k m
    rw [bAll]
    split
    · rename_i h
      unfold puts
      rw [Bool.or_eq_true, ih, decide_eq_true_eq]
      constructor
      · rintro (⟨pc, h1, h2, h3⟩ | h3)
        · exact ⟨pc, by omega, h2, h3⟩
        · exact ⟨m, by omega, h, h3⟩
      · rintro ⟨pc, h1, h2, h3⟩
        by_cases e : pc = m
        · subst e; exact .inr h3
        · exact .inl ⟨pc, by omega, h2, h3⟩
    · rename_i h
      rw [ih]
      constructor
      · rintro ⟨pc, h1, h2, h3⟩
        exact ⟨pc, by omega, h2, h3⟩
      · rintro ⟨pc, h1, h2, h3⟩
        by_cases e : pc = m
        · subst e; exact absurd h2 h
        · exact ⟨pc, by omega, h2, h3⟩
/-- One pass over the first m. -/
def gPass (f : Fn) (L : Int → Bool) (s : Nat → Bool) : Nat → Nat → Bool
  | 0 => s
  | m + 1 => if gPass f L s m m = true ∧ L (insAt f.code m).op = true then puts (gPass f L s m) (nxt f m) else gPass f L s m
/-- Closed under what may come behind. -/
def closedF (f : Fn) (L : Int → Bool) (R : Nat → Bool) : Prop := ∀ pc, pc < f.code.length → R pc = true → L (insAt f.code pc).op = true → ∀ x ∈ nxt f pc, R x.toNat = true
/-- The least closed one above s. -/
structure Least (f : Fn) (L : Int → Bool) (s R : Nat → Bool) : Prop where
  up : ∀ k, s k = true → R k = true
  cl : closedF f L R
  le : ∀ R', (∀ k, s k = true → R' k = true) → closedF f L R' → ∀ k, R k = true → R' k = true
theorem Least.same {f : Fn} {L : Int → Bool} {s R R' : Nat → Bool} (h : Least f L s R) (h' : Least f L s R') : R = R' := by
  funext k
  rw [Bool.eq_iff_iff]
  exact ⟨h.le R' h'.up h'.cl k, h'.le R h.up h.cl k⟩
theorem gPass_up (f : Fn) (L : Int → Bool) (s : Nat → Bool) : ∀ m k, s k = true → gPass f L s m k = true
  | 0, k, h => h
  | m + 1, k, h => by
    have ih := gPass_up f L s m k h
    rw [gPass]
    split
    · unfold puts; rw [ih]; rfl
    · exact ih
theorem gPass_le {f : Fn} (hf : FlowF f) (L : Int → Bool) {s R : Nat → Bool} (hs : ∀ k, s k = true → R k = true) (hc : closedF f L R) : ∀ m, m ≤ f.code.length → ∀ k, gPass f L s m k = true → R k = true
  | 0, _, k, h => hs k h
  | m + 1, hm, k, h => by
    have ih := gPass_le hf L hs hc m (by omega)
    rw [gPass] at h
    split at h
    · rename_i c
      unfold puts at h
      rw [Bool.or_eq_true, decide_eq_true_eq] at h
      rcases h with h | h
      · exact ih k h
      · have := hc m (by omega) (ih m c.1) c.2 _ h
        rwa [Int.toNat_natCast] at this
    · exact ih k h
/-- A pass that changes nothing: closed. -/
theorem gPass_fix {f : Fn} (hf : FlowF f) (L : Int → Bool) {s : Nat → Bool} (h : ∀ k, k < 64 → gPass f L s f.code.length k = s k) : closedF f L s := fun pc hp h1 h2 x hx => by
  have key : ∀ m, pc < m → m ≤ f.code.length → gPass f L s m x.toNat = true := by
    intro m
    induction m with
    | zero => intro q; omega
    | succ m ih =>
      intro q1 q2
      rw [gPass]
      by_cases e : pc = m
      · subst e
        rw [if_pos ⟨gPass_up f L s pc pc h1, h2⟩]
        unfold puts
        rw [Bool.or_eq_true, decide_eq_true_eq]
        right
        have := (hf.n pc hp x hx).1
        rwa [Int.toNat_of_nonneg this]
      · have := ih (by omega) (by omega)
        split
        · unfold puts; rw [this]; rfl
        · exact this
  have hb := hf.n pc hp x hx
  have h64 := hf.l64
  rw [← h x.toNat (by omega)]
  exact key f.code.length (by omega) (Nat.le_refl _)
theorem least_fix {f : Fn} (hf : FlowF f) (L : Int → Bool) {s₀ s : Nat → Bool} (h1 : ∀ k, s₀ k = true → s k = true) (h2 : ∀ R, (∀ k, s₀ k = true → R k = true) → closedF f L R → ∀ k, s k = true → R k = true) (h : ∀ k, k < 64 → gPass f L s f.code.length k = s k) : Least f L s₀ s := ⟨h1, gPass_fix hf L h, h2⟩
/-- How many are not marked. -/
def miss (s : Nat → Bool) : Nat → Nat
  | 0 => 0
  | n + 1 => miss s n + (if s n = true then 0 else 1)
theorem miss_le {s t : Nat → Bool} (h : ∀ k, s k = true → t k = true) : ∀ n, miss t n ≤ miss s n
  | 0 => Nat.le_refl _
  | n + 1 => by
    have ih := miss_le h n
    rw [miss, miss]
    by_cases c : s n = true
    · rw [if_pos c, if_pos (h n c)]; omega
    · rw [if_neg c]; split <;> omega
theorem miss_lt {s t : Nat → Bool} (h : ∀ k, s k = true → t k = true) : ∀ n, (∃ k, k < n ∧ t k ≠ s k) → miss t n < miss s n
  | 0, ⟨k, hk, _⟩ => by omega
  | n + 1, ⟨k, hk, hne⟩ => by
    rw [miss, miss]
    by_cases e : k = n
    · subst e
      have h1 := miss_le h k
      have hs : s k ≠ true := fun q => hne (by rw [q]; exact h k q)
      have ht : t k = true := by
        cases q : t k with
        | true => rfl
        | false => cases q2 : s k with
          | true => exact absurd q2 hs
          | false => rw [q, q2] at hne; exact absurd rfl hne
      rw [if_neg hs, if_pos ht]; omega
    · have h1 := miss_lt h n ⟨k, by omega, hne⟩
      by_cases c : s n = true
      · rw [if_pos c, if_pos (h n c)]; omega
      · rw [if_neg c]; split <;> omega
end Go.Proofs.YtlcljdldhajkiaaDoor.pg
