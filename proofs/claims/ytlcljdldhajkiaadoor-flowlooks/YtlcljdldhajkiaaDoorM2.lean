/- What is wrong with a program, as plain mathematics: by package prog's order and by the document's own; where they agree. -/
import Derived.Test.YtlcljdldhajkiaaDoorM1
namespace Go.Proofs.YtlcljdldhajkiaaDoor.pg
set_option linter.unusedVariables false
/-- The first error of a list's elements, 0 if none has one; and at which place. -/
def firstE {α : Type} (g : α → Int) : List α → Int
  | [] => 0
  | x :: t => if g x = 0 then firstE g t else g x
def firstAt {α : Type} (g : α → Int) : List α → Nat → Int × Nat
  | [], k => (0, k)
  | x :: t, k => if g x = 0 then firstAt g t (k + 1) else (g x, k)
theorem firstE_zero {α : Type} (g : α → Int) (l : List α) (h : ∀ x ∈ l, g x = 0) : firstE g l = 0 := by
  induction l with
  | nil => rfl
  | cons x t ih => simp only [firstE, h x (by simp), if_true]; exact ih fun y hy => h y (by simp [hy])
theorem firstE_iff {α : Type} (g : α → Int) (l : List α) : firstE g l = 0 ↔ ∀ x ∈ l, g x = 0 := by
  constructor
  · intro h
    induction l with
    | nil => simp
    | cons x t ih =>
      simp only [firstE] at h
      by_cases hx : g x = 0
      · simp only [hx, if_true] at h
        intro y hy
        rcases List.mem_cons.mp hy with rfl | hy
        · exact hx
        · exact ih h y hy
      · simp only [hx, if_false] at h
  · exact firstE_zero g l
theorem firstE_hit {α : Type} (g : α → Int) (l : List α) (k : Nat) (x : α) (hk : l[k]? = some x) (h : ∀ i y, i < k → l[i]? = some y → g y = 0) (hx : g x ≠ 0) : firstE g l = g x := by
  induction l generalizing k with
  | nil => simp at hk
  | cons y t ih =>
    cases k with
    | zero =>
      simp at hk
      subst hk
      simp [firstE, hx]
    | succ k =>
      simp at hk
      simp only [firstE, h 0 y (by omega) rfl, if_true]
      exact ih k hk fun i z hi hz => h (i + 1) z (by omega) (by simpa using hz)
theorem firstAt_zero {α : Type} (g : α → Int) (l : List α) (j : Nat) (h : ∀ x ∈ l, g x = 0) : firstAt g l j = (0, j + l.length) := by
  induction l generalizing j with
  | nil => rfl
  | cons x t ih =>
    simp only [firstAt, h x (by simp), if_true]
    rw [ih (j + 1) fun y hy => h y (by simp [hy])]
    simp; omega
theorem firstAt_hit {α : Type} (g : α → Int) (l : List α) (j k : Nat) (x : α) (hk : l[k]? = some x) (h : ∀ i y, i < k → l[i]? = some y → g y = 0) (hx : g x ≠ 0) : firstAt g l j = (g x, j + k) := by
  induction l generalizing k j with
  | nil => simp at hk
  | cons y t ih =>
    cases k with
    | zero =>
      simp at hk
      subst hk
      simp [firstAt, hx]
    | succ k =>
      simp at hk
      simp only [firstAt, h 0 y (by omega) rfl, if_true]
      rw [ih (j + 1) k hk fun i z hi hz => h (i + 1) z (by omega) (by simpa using hz)]
      simp; omega
theorem firstAt_fst {α : Type} (g : α → Int) (l : List α) (j : Nat) : (firstAt g l j).1 = firstE g l := by
  induction l generalizing j with
  | nil => rfl
  | cons x t ih =>
    by_cases hx : g x = 0
    · simp only [firstAt, firstE, hx, if_true]; exact ih _
    · simp only [firstAt, firstE, hx, if_false]
/-- How the letters of an operation's form lie: the letter's byte at a place; 0 of what is no operation. -/
def formOf (op : Int) : List Int :=
  if 1 ≤ op ∧ op ≤ 15 then [114, 114, 45, 45] else if 16 ≤ op ∧ op ≤ 36 then [114, 114, 114, 45] else
  if op = 40 ∨ op = 44 ∨ op = 65 then [114, 45, 45, 110] else if op = 41 then [114, 114, 45, 45] else if op = 42 then [116, 45, 45, 45] else if op = 43 then [114, 116, 45, 45] else
  if op = 45 ∨ op = 64 then [45, 45, 45, 45] else if op = 50 then [114, 118, 45, 45] else if op = 51 then [118, 114, 45, 45] else if op = 52 then [111, 97, 114, 45] else if op = 53 then [114, 97, 114, 119] else
  if op = 54 then [97, 114, 45, 45] else if op = 55 ∨ op = 56 then [108, 45, 45, 45] else if op = 57 then [114, 108, 45, 45] else if op = 58 then [99, 114, 45, 45] else if op = 59 then [111, 99, 111, 45] else
  if op = 60 then [99, 45, 45, 45] else if op = 61 then [115, 45, 45, 45] else if op = 62 then [111, 102, 112, 45] else if op = 63 then [114, 45, 45, 45] else []
def lt (op : Int) (j : Nat) : Int := (formOf op).getD j 0
abbrev known (op : Int) : Prop := formOf op ≠ []
def Ins.x (i : Ins) : Nat → Int
  | 0 => i.a
  | 1 => i.b
  | 2 => i.c
  | _ => i.n
abbrev inR (x n : Int) : Prop := 0 ≤ x ∧ x < n
/-- k parameters from the register first on. -/
abbrev roomP (k first regs : Int) : Prop := if k = 0 then first = 0 else if first < 0 then False else first + k ≤ regs
abbrev roomR (k x regs : Int) : Prop := ¬ (k = 0 ∧ x ≠ 0 ∨ 0 < k ∧ (x < 0 ∨ regs - k < x))
def Pr.par (P : Pr) (b : Int) : Int := match P.fns[b.toNat]? with | some f => f.params | none => 0
def Pr.atom (P : Pr) (b : Int) : Bool := match P.vars[b.toNat]? with | some f => f.atomic | none => false
/-- What is wrong with an operand, by its letter; r: whether the parameters have room. -/
def opndE (r : Prop) [Decidable r] (P : Pr) (f : Fn) (l x : Int) : Int :=
  if l = 111 ∧ x = -1 then 0 else
  if l = 111 ∨ l = 114 ∨ l = 119 then (if inR x f.regs then 0 else 35) else
  if l = 112 then (if r then 0 else 35) else
  if l = 97 then (if inR x P.vars.length then (if P.atom x = true then 0 else 37) else 36) else
  if l = 118 then (if inR x P.vars.length then 0 else 36) else
  if l = 108 then (if inR x P.locks then 0 else 36) else
  if l = 99 then (if inR x P.chans.length then 0 else 36) else
  if l = 115 then (if inR x f.sels.length then 0 else 36) else
  if l = 102 then (if inR x P.fns.length then 0 else 36) else
  if l = 116 then (if inR x f.code.length then 0 else 38) else 0
def fst4 (a b c d : Int) : Int := if a = 0 then (if b = 0 then (if c = 0 then d else c) else b) else a
abbrev unused (i : Ins) : Prop := lt i.op 0 = 45 ∧ i.a ≠ 0 ∨ lt i.op 1 = 45 ∧ i.b ≠ 0 ∨ lt i.op 2 = 45 ∧ i.c ≠ 0 ∨ lt i.op 3 = 45 ∧ i.n ≠ 0
/-- What is wrong with an instruction. -/
def insE (r : Prop) [Decidable r] (P : Pr) (f : Fn) (i : Ins) : Int :=
  if known i.op then (if unused i then 34 else fst4 (opndE r P f (lt i.op 0) i.a) (opndE r P f (lt i.op 1) i.b) (opndE r P f (lt i.op 2) i.c) (opndE r P f (lt i.op 3) i.n)) else 33
def insP (P : Pr) (f : Fn) (i : Ins) : Int := insE (roomP (P.par i.b) i.c f.regs) P f i
def insR (P : Pr) (f : Fn) (i : Ins) : Int := insE (roomR (P.par i.b) i.c f.regs) P f i
def Pr.room (P : Pr) (c : Int) : Int := match P.chans[c.toNat]? with | some x => x | none => 0
/-- What is wrong with a case, a select. -/
def casE (P : Pr) (f : Fn) (c : Cas) : Int :=
  if inR c.ch P.chans.length then (if inR c.reg f.regs ∨ c.reg = -1 ∧ c.send = false then (if c.send = true ∧ P.room c.ch = 0 then 37 else if inR c.to f.code.length then 0 else 38) else 35) else 36
def selE (P : Pr) (f : Fn) (s : Sel) : Int :=
  if firstE (casE P f) s.cases = 0 then (if s.els = -1 ∨ inR s.els f.code.length then 0 else 38) else firstE (casE P f) s.cases
abbrev shaped (f : Fn) : Prop := (0 ≤ f.regs ∧ f.regs ≤ 8) ∧ (0 ≤ f.params ∧ f.params ≤ f.regs) ∧ (1 ≤ f.code.length ∧ f.code.length ≤ 64) ∧ f.sels.length ≤ 4 ∧ ∀ s ∈ f.sels, 1 ≤ s.cases.length ∧ s.cases.length ≤ 4
abbrev ends (op : Int) : Prop := op = 42 ∨ op = 45 ∨ op = 61
def lastOp (f : Fn) : Int := match f.code.getLast? with | some i => i.op | none => 0
/-- What is wrong with a function, and at which place. -/
def fnE (ins : Pr → Fn → Ins → Int) (P : Pr) (n : Nat) (f : Fn) : Int × Int :=
  if shaped f ∧ (n = 0 → f.params = 0) then
    (if firstE (selE P f) f.sels = 0 then
      (if firstE (ins P f) f.code = 0 then (if ends (lastOp f) then (0, 0) else (39, (f.code.length : Int) - 1)) else ((firstAt (ins P f) f.code 0).1, ((firstAt (ins P f) f.code 0).2 : Int)))
    else (firstE (selE P f) f.sels, 0))
  else (32, 0)
def sizesE (P : Pr) : Int :=
  if P.vars.length ≤ 8 ∧ (0 ≤ P.locks ∧ P.locks ≤ 4) ∧ P.chans.length ≤ 4 ∧ (1 ≤ P.fns.length ∧ P.fns.length ≤ 8) then firstE (fun c => if 0 ≤ c ∧ c ≤ 4 then 0 else 31) P.chans else 30
def fnsE (ins : Pr → Fn → Ins → Int) (P : Pr) : List Fn → Nat → Int × Int × Int
  | [], _ => (0, 0, 0)
  | f :: t, n => if (fnE ins P n f).1 = 0 then fnsE ins P t (n + 1) else ((fnE ins P n f).1, n, (fnE ins P n f).2)
def chk (ins : Pr → Fn → Ins → Int) (P : Pr) : Int × Int × Int := if sizesE P = 0 then fnsE ins P P.fns 0 else (sizesE P, 0, 0)
theorem fnsE_zero (ins : Pr → Fn → Ins → Int) (P : Pr) (l : List Fn) (j : Nat) (h : ∀ i f, l[i]? = some f → (fnE ins P (j + i) f).1 = 0) : fnsE ins P l j = (0, 0, 0) := by
  induction l generalizing j with
  | nil => rfl
  | cons x t ih =>
    have h0 := h 0 x rfl
    rw [Nat.add_zero] at h0
    simp only [fnsE, h0, if_true]
    exact ih (j + 1) fun i f hf => by have := h (i + 1) f (by simpa using hf); rwa [show j + 1 + i = j + (i + 1) by omega]
theorem fnsE_hit (ins : Pr → Fn → Ins → Int) (P : Pr) (l : List Fn) (j k : Nat) (x : Fn) (hk : l[k]? = some x) (h : ∀ i f, i < k → l[i]? = some f → (fnE ins P (j + i) f).1 = 0) (hx : (fnE ins P (j + k) x).1 ≠ 0) :
    fnsE ins P l j = ((fnE ins P (j + k) x).1, ((j + k : Nat) : Int), (fnE ins P (j + k) x).2) := by
  induction l generalizing j k with
  | nil => simp at hk
  | cons y t ih =>
    cases k with
    | zero =>
      simp at hk
      subst hk
      rw [Nat.add_zero] at hx ⊢
      simp only [fnsE, hx, if_false]
    | succ k =>
      simp at hk
      have h0 := h 0 y (by omega) rfl
      rw [Nat.add_zero] at h0
      simp only [fnsE, h0, if_true]
      rw [show j + (k + 1) = j + 1 + k by omega] at hx ⊢
      exact ih (j + 1) k hk (fun i f hi hf => by have := h (i + 1) f (by omega) (by simpa using hf); rwa [show j + 1 + i = j + (i + 1) by omega]) hx
theorem casE_obj {P : Pr} {f : Fn} {c : Cas} (h : ¬ inR c.ch P.chans.length) : casE P f c = 36 := by unfold casE; rw [if_neg h]
theorem casE_reg {P : Pr} {f : Fn} {c : Cas} (h : inR c.ch P.chans.length) (h2 : ¬ (inR c.reg f.regs ∨ c.reg = -1 ∧ c.send = false)) : casE P f c = 35 := by unfold casE; rw [if_pos h, if_neg h2]
theorem casE_kind {P : Pr} {f : Fn} {c : Cas} (h : inR c.ch P.chans.length) (h2 : inR c.reg f.regs ∨ c.reg = -1 ∧ c.send = false) (h3 : c.send = true ∧ P.room c.ch = 0) : casE P f c = 37 := by unfold casE; rw [if_pos h, if_pos h2, if_pos h3]
theorem casE_target {P : Pr} {f : Fn} {c : Cas} (h : inR c.ch P.chans.length) (h2 : inR c.reg f.regs ∨ c.reg = -1 ∧ c.send = false) (h3 : ¬ (c.send = true ∧ P.room c.ch = 0)) (h4 : ¬ inR c.to f.code.length) : casE P f c = 38 := by
  unfold casE; rw [if_pos h, if_pos h2, if_neg h3, if_neg h4]
theorem casE_ok {P : Pr} {f : Fn} {c : Cas} (h : inR c.ch P.chans.length) (h2 : inR c.reg f.regs ∨ c.reg = -1 ∧ c.send = false) (h3 : ¬ (c.send = true ∧ P.room c.ch = 0)) (h4 : inR c.to f.code.length) : casE P f c = 0 := by
  unfold casE; rw [if_pos h, if_pos h2, if_neg h3, if_pos h4]
end Go.Proofs.YtlcljdldhajkiaaDoor.pg
/- Forms and instructions, as plain mathematics. -/
namespace Go.Proofs.YtlcljdldhajkiaaDoor.pg
set_option linter.unusedVariables false
theorem formOf_big (op : Int) (h : ¬ (0 ≤ op ∧ op < 66)) : formOf op = [] := by
  unfold formOf
  repeat rw [if_neg (by omega)]
/-- A form has four letters, each a byte, or none at all. -/
theorem formOf_four (op : Int) : formOf op = [] ∨ ∃ a b c d : Nat, formOf op = [(a : Int), (b : Int), (c : Int), (d : Int)] ∧ a < 256 ∧ b < 256 ∧ c < 256 ∧ d < 256 := by
  by_cases h : 0 ≤ op ∧ op < 66
  · obtain ⟨n, rfl⟩ : ∃ n : Nat, op = (n : Int) := ⟨op.toNat, by omega⟩
    have key : ∀ n : Fin 66, formOf ((n.val : Nat) : Int) = [] ∨ ((formOf ((n.val : Nat) : Int)).length = 4 ∧ ∀ x ∈ formOf ((n.val : Nat) : Int), 0 ≤ x ∧ x < 256) := by decide
    rcases key ⟨n, by omega⟩ with h | ⟨h1, h2⟩
    · exact .inl h
    · right
      simp only at h1 h2
      match hf : formOf (n : Int), h1 with
      | [a, b, c, d], _ =>
        rw [hf] at h2
        have ha := h2 a (by simp)
        have hb := h2 b (by simp)
        have hc := h2 c (by simp)
        have hd := h2 d (by simp)
        exact ⟨a.toNat, b.toNat, c.toNat, d.toNat, by rw [Int.toNat_of_nonneg ha.1, Int.toNat_of_nonneg hb.1, Int.toNat_of_nonneg hc.1, Int.toNat_of_nonneg hd.1], by omega, by omega, by omega, by omega⟩
  · exact .inl (formOf_big op h)
/-- Where the letter p stands: behind the letter f. -/
theorem p_where (op : Int) (k : Nat) (h : lt op k = 112) : k = 2 ∧ lt op 1 = 102 := by
  by_cases ho : 0 ≤ op ∧ op < 66
  · obtain ⟨n, rfl⟩ : ∃ n : Nat, op = (n : Int) := ⟨op.toNat, by omega⟩
    have key : ∀ n : Fin 66, (∀ k : Fin 4, lt ((n.val : Nat) : Int) k.val = 112 → k.val = 2 ∧ lt ((n.val : Nat) : Int) 1 = 102) ∧ (formOf ((n.val : Nat) : Int)).length ≤ 4 := by decide
    have k4 : k < 4 := by
      have h4 := (key ⟨n, by omega⟩).2
      simp only at h4
      apply Classical.byContradiction
      intro hk
      unfold lt at h
      rw [List.getD_eq_getElem?_getD, List.getElem?_eq_none (by omega)] at h
      simp at h
    exact (key ⟨n, by omega⟩).1 ⟨k, k4⟩ h
  · unfold lt at h
    rw [formOf_big op ho] at h
    simp at h
theorem insE_op {r : Prop} [Decidable r] {P : Pr} {f : Fn} {i : Ins} (h : formOf i.op = []) : insE r P f i = 33 := by unfold insE; rw [if_neg (fun q => q h)]
theorem unused_iff (i : Ins) : unused i ↔ ∃ j, j < 4 ∧ lt i.op j = 45 ∧ i.x j ≠ 0 := by
  constructor
  · rintro (h | h | h | h)
    · exact ⟨0, by omega, h⟩
    · exact ⟨1, by omega, h⟩
    · exact ⟨2, by omega, h⟩
    · exact ⟨3, by omega, h⟩
  · rintro ⟨j, hj, h⟩
    match j, hj, h with
    | 0, _, h => exact .inl h
    | 1, _, h => exact .inr (.inl h)
    | 2, _, h => exact .inr (.inr (.inl h))
    | 3, _, h => exact .inr (.inr (.inr h))
theorem insE_unused {r : Prop} [Decidable r] {P : Pr} {f : Fn} {i : Ins} (h : formOf i.op ≠ []) (hu : unused i) : insE r P f i = 34 := by unfold insE; rw [if_pos h, if_pos hu]
/-- The first error of four. -/
theorem fst4_hit (g : Nat → Int) (k : Nat) (hk : k < 4) (h : ∀ j, j < k → g j = 0) (hx : g k ≠ 0) : fst4 (g 0) (g 1) (g 2) (g 3) = g k := by
  unfold fst4
  match k, hk with
  | 0, _ => rw [if_neg hx]
  | 1, _ => rw [if_pos (h 0 (by omega)), if_neg hx]
  | 2, _ => rw [if_pos (h 0 (by omega)), if_pos (h 1 (by omega)), if_neg hx]
  | 3, _ => rw [if_pos (h 0 (by omega)), if_pos (h 1 (by omega)), if_pos (h 2 (by omega))]
theorem insE_hit {r : Prop} [Decidable r] {P : Pr} {f : Fn} {i : Ins} (h : formOf i.op ≠ []) (hu : ¬ unused i) (k : Nat) (hk : k < 4) (hb : ∀ j, j < k → opndE r P f (lt i.op j) (i.x j) = 0) (hx : opndE r P f (lt i.op k) (i.x k) ≠ 0) :
    insE r P f i = opndE r P f (lt i.op k) (i.x k) := by
  unfold insE; rw [if_pos h, if_neg hu]
  exact fst4_hit (fun j => opndE r P f (lt i.op j) (i.x j)) k hk hb hx
theorem insE_ok {r : Prop} [Decidable r] {P : Pr} {f : Fn} {i : Ins} (h : formOf i.op ≠ []) (hu : ¬ unused i) (hb : ∀ j, j < 4 → opndE r P f (lt i.op j) (i.x j) = 0) : insE r P f i = 0 := by
  unfold insE fst4; rw [if_pos h, if_neg hu]
  have h0 := hb 0 (by omega)
  have h1 := hb 1 (by omega)
  have h2 := hb 2 (by omega)
  have h3 := hb 3 (by omega)
  simp only [Ins.x] at h0 h1 h2 h3
  rw [if_pos h0, if_pos h1, if_pos h2, h3]
end Go.Proofs.YtlcljdldhajkiaaDoor.pg
/- Where package prog's order and the document's own agree on what is right. -/
namespace Go.Proofs.YtlcljdldhajkiaaDoor.pg
set_option linter.unusedVariables false
theorem par_nonneg (P : Pr) (h : ∀ f ∈ P.fns, 0 ≤ f.params) (b : Int) : 0 ≤ P.par b := by
  unfold Pr.par
  split
  · rename_i f hf
    exact h f (List.mem_of_getElem? hf)
  · exact Int.le_refl 0
theorem room_iff (k c regs : Int) (h : 0 ≤ k) : roomP k c regs ↔ roomR k c regs := by
  unfold roomP roomR
  by_cases h0 : k = 0
  · subst h0
    simp
  · rw [if_neg h0]
    by_cases hc : c < 0
    · rw [if_pos hc]; constructor
      · exact fun q => q.elim
      · intro q; exact q (.inr ⟨by omega, .inl hc⟩)
    · rw [if_neg hc]; constructor
      · intro q; rintro (q' | q') <;> omega
      · intro q
        apply Classical.byContradiction
        intro q'
        exact q (.inr ⟨by omega, .inr (by omega)⟩)
theorem opndE_congr {r r' : Prop} [Decidable r] [Decidable r'] (h : r ↔ r') (P : Pr) (f : Fn) (l x : Int) : opndE r P f l x = opndE r' P f l x := by
  unfold opndE
  by_cases q : r
  · rw [if_pos q, if_pos (h.mp q)]
  · rw [if_neg q, if_neg (fun t => q (h.mpr t))]
theorem insE_congr {r r' : Prop} [Decidable r] [Decidable r'] (h : r ↔ r') (P : Pr) (f : Fn) (i : Ins) : insE r P f i = insE r' P f i := by
  unfold insE
  rw [opndE_congr h, opndE_congr h, opndE_congr h, opndE_congr h]
theorem ins_eq (P : Pr) (h : ∀ f ∈ P.fns, 0 ≤ f.params) (f : Fn) (i : Ins) : insP P f i = insR P f i := insE_congr (room_iff _ _ _ (par_nonneg P h i.b)) P f i
theorem fnE_congr {ins ins' : Pr → Fn → Ins → Int} {P : Pr} (h : ∀ f i, ins P f i = ins' P f i) (n : Nat) (f : Fn) : fnE ins P n f = fnE ins' P n f := by
  have : ins P f = ins' P f := funext fun i => h f i
  unfold fnE; rw [this]
theorem fnsE_congr {ins ins' : Pr → Fn → Ins → Int} {P : Pr} (h : ∀ f i, ins P f i = ins' P f i) (l : List Fn) (n : Nat) : fnsE ins P l n = fnsE ins' P l n := by
  induction l generalizing n with
  | nil => rfl
  | cons x t ih => simp only [fnsE]; rw [fnE_congr h, ih]
/-- Both tell the same of a program none of whose functions has fewer than no parameters. -/
theorem chk_eq (P : Pr) (h : ∀ f ∈ P.fns, 0 ≤ f.params) : chk insP P = chk insR P := by
  unfold chk; rw [fnsE_congr (ins_eq P h)]
theorem fnE_shaped {ins : Pr → Fn → Ins → Int} {P : Pr} {n : Nat} {f : Fn} (h : (fnE ins P n f).1 = 0) : shaped f ∧ (n = 0 → f.params = 0) := by
  apply Classical.byContradiction
  intro q
  unfold fnE at h
  rw [if_neg q] at h
  simp at h
theorem fnsE_each {ins : Pr → Fn → Ins → Int} {P : Pr} (l : List Fn) (j : Nat) (h : (fnsE ins P l j).1 = 0) : ∀ i f, l[i]? = some f → (fnE ins P (j + i) f).1 = 0 := by
  induction l generalizing j with
  | nil => intro i f hf; simp at hf
  | cons x t ih =>
    simp only [fnsE] at h
    by_cases hx : (fnE ins P j x).1 = 0
    · rw [if_pos hx] at h
      intro i f hf
      cases i with
      | zero => simp at hf; subst hf; rw [Nat.add_zero]; exact hx
      | succ i => simp at hf; have := ih (j + 1) h i f hf; rwa [show j + 1 + i = j + (i + 1) by omega] at this
    · rw [if_neg hx] at h; exact absurd h hx
theorem chk_sizes0 {ins : Pr → Fn → Ins → Int} {P : Pr} (h : (chk ins P).1 = 0) : sizesE P = 0 := by
  apply Classical.byContradiction
  intro q
  unfold chk at h
  rw [if_neg q] at h
  exact q h
theorem chk_each {ins : Pr → Fn → Ins → Int} {P : Pr} (h : (chk ins P).1 = 0) (i : Nat) (f : Fn) (hf : P.fns[i]? = some f) : (fnE ins P i f).1 = 0 := by
  have h0 := chk_sizes0 h
  unfold chk at h
  rw [if_pos h0] at h
  have := fnsE_each P.fns 0 h i f hf
  rwa [Nat.zero_add] at this
theorem chk_shaped {ins : Pr → Fn → Ins → Int} {P : Pr} (h : (chk ins P).1 = 0) (f : Fn) (hf : f ∈ P.fns) : shaped f := by
  obtain ⟨i, hi, rfl⟩ := List.getElem_of_mem hf
  exact (fnE_shaped (chk_each h i _ (List.getElem?_eq_getElem hi))).1
/-- A program is right. -/
def right (P : Pr) : Prop := (chk insP P).1 = 0
theorem right_iff (P : Pr) : (chk insP P).1 = 0 ↔ (chk insR P).1 = 0 := by
  constructor
  · intro h; rw [← chk_eq P (fun f hf => (chk_shaped h f hf).2.1.1)]; exact h
  · intro h; rw [chk_eq P (fun f hf => (chk_shaped h f hf).2.1.1)]; exact h
theorem sizes_ok {P : Pr} (h : sizesE P = 0) : P.vars.length ≤ 8 ∧ (0 ≤ P.locks ∧ P.locks ≤ 4) ∧ P.chans.length ≤ 4 ∧ (1 ≤ P.fns.length ∧ P.fns.length ≤ 8) := by
  apply Classical.byContradiction
  intro q
  unfold sizesE at h
  rw [if_neg q] at h
  simp at h
end Go.Proofs.YtlcljdldhajkiaaDoor.pg
