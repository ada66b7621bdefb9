/- Elements of a program's lists: what an index gives, and the cells there. -/
import Derived.Test.YtjcmhaaohdmjpaaDoorM1
import Derived.Test.YtjcmhaaohdmjpaaDoorRows
import Derived.WalkKit
import Derived.ProofKit
import Derived.OpenShut
import Derived.WalkSpells
import Derived.WalkLawsBesides
import Derived.Lib.LaidTab
namespace Go.Proofs.YtjcmhaaohdmjpaaDoor.pg
open Go.ChangeShapes Go.WideShapes Go.ChangeAt Go.RowKit
set_option linter.unusedVariables false
theorem Rows.ix {w : World} {k : Nat} {a : Option Addr} {cap : Nat} {L : List (List Value)} (h : Rows w k a cap L) (t e : TypeId) (hu : Tryd.prog.underlying t = some (.slice e)) (he : Tryd.prog.elem t = e) (hs : ∀ wx, (sizeOf e).run Tryd.prog wx = .ok k wx)
    (i : Nat) {row : List Value} (hi : L[i]? = some row) :
    ∃ b o, (∀ wx, (Instr.indexAt t (.slice a L.length cap) (.int .i64 (i : Int))).run Tryd.prog wx = .ok (.pointer (some ⟨b, o, none⟩)) wx) ∧ b < w.heap.size ∧ ∀ j u, row[j]? = some u → w.cell? ⟨b, o + j, none⟩ = some u := by
  obtain ⟨b, off, ha, hlt, hc⟩ := h.row hi
  have hil : i < L.length := (List.getElem?_eq_some_iff.mp hi).1
  refine ⟨b, off + i * k, fun wx => ?_, hlt, fun j u hj => by rw [Nat.add_assoc]; exact hc j u hj⟩
  subst he
  rw [ha, run_indexAt_slice wx t ⟨b, off, none⟩ _ _ _ _ hu, if_pos (by omega), hs wx]
  simp only [Int.toNat_natCast]
  show Result.ok (Value.pointer (some ((⟨b, off, none⟩ : Addr).add (i * k)))) wx = _
  rw [add_none]
theorem ins_ix {w : World} {a : Option Addr} {cap : Nat} {l : List Ins} (h : Rows w 5 a cap (l.map Ins.cells)) (i : Nat) (x : Ins) (hi : l[i]? = some x) :
    ∃ b o, (∀ wx, (Instr.indexAt 55 (.slice a l.length cap) (.int .i64 (i : Int))).run Tryd.prog wx = .ok (.pointer (some ⟨b, o, none⟩)) wx) ∧ b < w.heap.size ∧ w.cell? ⟨b, o, none⟩ = some (.int .i64 x.op) ∧ w.cell? ⟨b, o + 1, none⟩ = some (.int .i64 x.a) ∧ w.cell? ⟨b, o + 2, none⟩ = some (.int .i64 x.b) ∧ w.cell? ⟨b, o + 3, none⟩ = some (.int .i64 x.c) ∧ w.cell? ⟨b, o + 4, none⟩ = some (.int .i64 x.n) := by
  obtain ⟨b, o, hr, hlt, hc⟩ := h.ix 55 74 Tryd.underlying55 (by kernel_rfl) (fun wx => Tryd.sizeOf74 wx) i (row := x.cells) (by simp [hi])
  rw [List.length_map] at hr
  exact ⟨b, o, hr, hlt, hc 0 _ rfl, hc 1 _ rfl, hc 2 _ rfl, hc 3 _ rfl, hc 4 _ rfl⟩
theorem cas_ix {w : World} {a : Option Addr} {cap : Nat} {l : List Cas} (h : Rows w 4 a cap (l.map Cas.cells)) (i : Nat) (x : Cas) (hi : l[i]? = some x) :
    ∃ b o, (∀ wx, (Instr.indexAt 59 (.slice a l.length cap) (.int .i64 (i : Int))).run Tryd.prog wx = .ok (.pointer (some ⟨b, o, none⟩)) wx) ∧ b < w.heap.size ∧ w.cell? ⟨b, o, none⟩ = some (.bool x.send) ∧ w.cell? ⟨b, o + 1, none⟩ = some (.int .i64 x.ch) ∧ w.cell? ⟨b, o + 2, none⟩ = some (.int .i64 x.reg) ∧ w.cell? ⟨b, o + 3, none⟩ = some (.int .i64 x.to) := by
  obtain ⟨b, o, hr, hlt, hc⟩ := h.ix 59 90 Tryd.underlying59 (by kernel_rfl) (fun wx => Tryd.sizeOf90 wx) i (row := x.cells) (by simp [hi])
  rw [List.length_map] at hr
  exact ⟨b, o, hr, hlt, hc 0 _ rfl, hc 1 _ rfl, hc 2 _ rfl, hc 3 _ rfl⟩
theorem sel_ix {w : World} {a : Option Addr} {cap : Nat} {l : List MSel} (h : Rows w 2 a cap (l.map MSel.cells)) (i : Nat) (x : MSel) (hi : l[i]? = some x) :
    ∃ b o, (∀ wx, (Instr.indexAt 56 (.slice a l.length cap) (.int .i64 (i : Int))).run Tryd.prog wx = .ok (.pointer (some ⟨b, o, none⟩)) wx) ∧ b < w.heap.size ∧ w.cell? ⟨b, o, none⟩ = some (.slice x.at_ x.cases.length x.cap) ∧ w.cell? ⟨b, o + 1, none⟩ = some (.int .i64 x.els) := by
  obtain ⟨b, o, hr, hlt, hc⟩ := h.ix 56 61 Tryd.underlying56 (by kernel_rfl) (fun wx => Tryd.sizeOf61 wx) i (row := x.cells) (by simp [hi])
  rw [List.length_map] at hr
  exact ⟨b, o, hr, hlt, hc 0 _ rfl, hc 1 _ rfl⟩
theorem vr_ix {w : World} {a : Option Addr} {cap : Nat} {l : List Vr} (h : Rows w 2 a cap (l.map Vr.cells)) (i : Nat) (x : Vr) (hi : l[i]? = some x) :
    ∃ b o, (∀ wx, (Instr.indexAt 22 (.slice a l.length cap) (.int .i64 (i : Int))).run Tryd.prog wx = .ok (.pointer (some ⟨b, o, none⟩)) wx) ∧ b < w.heap.size ∧ w.cell? ⟨b, o, none⟩ = some (.bool x.atomic) ∧ w.cell? ⟨b, o + 1, none⟩ = some (.int .i64 x.init) := by
  obtain ⟨b, o, hr, hlt, hc⟩ := h.ix 22 68 Tryd.underlying22 (by kernel_rfl) (fun wx => Tryd.sizeOf68 wx) i (row := x.cells) (by simp [hi])
  rw [List.length_map] at hr
  exact ⟨b, o, hr, hlt, hc 0 _ rfl, hc 1 _ rfl⟩
theorem ch_ix {w : World} {a : Option Addr} {cap : Nat} {l : List Int} (h : Rows w 1 a cap (l.map chCells)) (i : Nat) (x : Int) (hi : l[i]? = some x) :
    ∃ b o, (∀ wx, (Instr.indexAt 23 (.slice a l.length cap) (.int .i64 (i : Int))).run Tryd.prog wx = .ok (.pointer (some ⟨b, o, none⟩)) wx) ∧ b < w.heap.size ∧ w.cell? ⟨b, o, none⟩ = some (.int .i64 x) := by
  obtain ⟨b, o, hr, hlt, hc⟩ := h.ix 23 3 Tryd.underlying23 (by kernel_rfl) (fun wx => Tryd.sizeOf3 wx) i (row := chCells x) (by simp [hi])
  rw [List.length_map] at hr
  exact ⟨b, o, hr, hlt, hc 0 _ rfl⟩
theorem fn_ix {w : World} {a : Option Addr} {cap : Nat} {l : List MFn} (h : Rows w 4 a cap (l.map MFn.cells)) (i : Nat) (x : MFn) (hi : l[i]? = some x) :
    ∃ b o, (∀ wx, (Instr.indexAt 24 (.slice a l.length cap) (.int .i64 (i : Int))).run Tryd.prog wx = .ok (.pointer (some ⟨b, o, none⟩)) wx) ∧ b < w.heap.size ∧ w.cell? ⟨b, o, none⟩ = some (.int .i64 x.params) ∧ w.cell? ⟨b, o + 1, none⟩ = some (.int .i64 x.regs) ∧ w.cell? ⟨b, o + 2, none⟩ = some (.slice x.ca x.code.length x.ccap) ∧ w.cell? ⟨b, o + 3, none⟩ = some (.slice x.sa x.sels.length x.scap) := by
  obtain ⟨b, o, hr, hlt, hc⟩ := h.ix 24 58 Tryd.underlying24 (by kernel_rfl) (fun wx => Tryd.sizeOf58 wx) i (row := x.cells) (by simp [hi])
  rw [List.length_map] at hr
  exact ⟨b, o, hr, hlt, hc 0 _ rfl, hc 1 _ rfl, hc 2 _ rfl, hc 3 _ rfl⟩
end Go.Proofs.YtjcmhaaohdmjpaaDoor.pg
/- What is wrong with a program, as plain mathematics: by package prog's order and by the document's own; where they agree. -/
namespace Go.Proofs.YtjcmhaaohdmjpaaDoor.pg
set_option linter.unusedVariables false
/-- The first error of a list's elements, 0 if none has one; and at which place. -/
def firstE {α : Type} (g : α → Int) : List α → Int
  | [] => 0
  | x :: t => if g x = 0 then firstE g t else g x
def firstAt {α : Type} (g : α → Int) : List α → Nat → Int × Nat
  | [], k => (0, k)
  | x :: t, k => if g x = 0 then firstAt g t (k + 1) else (g x, k)
theorem firstE_zero {α : Type} (g : α → Int) (l : List α) (h : ∀ x ∈ l, g x = 0) : firstE g l = 0 := by
  induction l with
  | nil => rfl
  | cons x t ih => simp only [firstE, h x (by simp), if_true]; exact ih fun y hy => h y (by simp [hy])
theorem firstE_iff {α : Type} (g : α → Int) (l : List α) : firstE g l = 0 ↔ ∀ x ∈ l, g x = 0 := by
  constructor
  · intro h
    induction l with
    | nil => simp
    | cons x t ih =>
      simp only [firstE] at h
      by_cases hx : g x = 0
      · simp only [hx, if_true] at h
        intro y hy
        rcases List.mem_cons.mp hy with rfl | hy
        · exact hx
        · exact ih h y hy
      · simp only [hx, if_false] at h
  · exact firstE_zero g l
theorem firstE_hit {α : Type} (g : α → Int) (l : List α) (k : Nat) (x : α) (hk : l[k]? = some x) (h : ∀ i y, i < k → l[i]? = some y → g y = 0) (hx : g x ≠ 0) : firstE g l = g x := by
  induction l generalizing k with
  | nil => simp at hk
  | cons y t ih =>
    cases k with
    | zero =>
      simp at hk
      subst hk
      simp [firstE, hx]
    | succ k =>
      simp at hk
      simp only [firstE, h 0 y (by omega) rfl, if_true]
      exact ih k hk fun i z hi hz => h (i + 1) z (by omega) (by simpa using hz)
theorem firstAt_zero {α : Type} (g : α → Int) (l : List α) (j : Nat) (h : ∀ x ∈ l, g x = 0) : firstAt g l j = (0, j + l.length) := by
  induction l generalizing j with
  | nil => rfl
  | cons x t ih =>
    simp only [firstAt, h x (by simp), if_true]
    rw [ih (j + 1) fun y hy => h y (by simp [hy])]
    simp; omega
theorem firstAt_hit {α : Type} (g : α → Int) (l : List α) (j k : Nat) (x : α) (hk : l[k]? = some x) (h : ∀ i y, i < k → l[i]? = some y → g y = 0) (hx : g x ≠ 0) : firstAt g l j = (g x, j + k) := by
  induction l generalizing k j with
  | nil => simp at hk
  | cons y t ih =>
    cases k with
    | zero =>
      simp at hk
      subst hk
      simp [firstAt, hx]
    | succ k =>
      simp at hk
      simp only [firstAt, h 0 y (by omega) rfl, if_true]
      rw [ih (j + 1) k hk fun i z hi hz => h (i + 1) z (by omega) (by simpa using hz)]
      simp; omega
theorem firstAt_fst {α : Type} (g : α → Int) (l : List α) (j : Nat) : (firstAt g l j).1 = firstE g l := by
  induction l generalizing j with
  | nil => rfl
  | cons x t ih =>
    by_cases hx : g x = 0
    · simp only [firstAt, firstE, hx, if_true]; exact ih _
    · simp only [firstAt, firstE, hx, if_false]
/-- How the letters of an operation's form lie: the letter's byte at a place; 0 of what is no operation. -/
def formOf (op : Int) : List Int :=
  if 1 ≤ op ∧ op ≤ 15 then [114, 114, 45, 45] else if 16 ≤ op ∧ op ≤ 36 then [114, 114, 114, 45] else
  if op = 40 ∨ op = 44 ∨ op = 65 then [114, 45, 45, 110] else if op = 41 then [114, 114, 45, 45] else if op = 42 then [116, 45, 45, 45] else if op = 43 then [114, 116, 45, 45] else
  if op = 45 ∨ op = 64 then [45, 45, 45, 45] else if op = 50 then [114, 118, 45, 45] else if op = 51 then [118, 114, 45, 45] else if op = 52 then [111, 97, 114, 45] else if op = 53 then [114, 97, 114, 119] else
  if op = 54 then [97, 114, 45, 45] else if op = 55 ∨ op = 56 then [108, 45, 45, 45] else if op = 57 then [114, 108, 45, 45] else if op = 58 then [99, 114, 45, 45] else if op = 59 then [111, 99, 111, 45] else
  if op = 60 then [99, 45, 45, 45] else if op = 61 then [115, 45, 45, 45] else if op = 62 then [111, 102, 112, 45] else if op = 63 then [114, 45, 45, 45] else []
def lt (op : Int) (j : Nat) : Int := (formOf op).getD j 0
abbrev known (op : Int) : Prop := formOf op ≠ []
def Ins.x (i : Ins) : Nat → Int
  | 0 => i.a
  | 1 => i.b
  | 2 => i.c
  | _ => i.n
abbrev inR (x n : Int) : Prop := 0 ≤ x ∧ x < n
/-- k parameters from the register first on. -/
abbrev roomP (k first regs : Int) : Prop := if k = 0 then first = 0 else if first < 0 then False else first + k ≤ regs
abbrev roomR (k x regs : Int) : Prop := ¬ (k = 0 ∧ x ≠ 0 ∨ 0 < k ∧ (x < 0 ∨ regs - k < x))
def Pr.par (P : Pr) (b : Int) : Int := match P.fns[b.toNat]? with | some f => f.params | none => 0
def Pr.atom (P : Pr) (b : Int) : Bool := match P.vars[b.toNat]? with | some f => f.atomic | none => false
/-- What is wrong with an operand, by its letter; r: whether the parameters have room. -/
def opndE (r : Prop) [Decidable r] (P : Pr) (f : Fn) (l x : Int) : Int :=
  if l = 111 ∧ x = -1 then 0 else
  if l = 111 ∨ l = 114 ∨ l = 119 then (if inR x f.regs then 0 else 35) else
  if l = 112 then (if r then 0 else 35) else
  if l = 97 then (if inR x P.vars.length then (if P.atom x = true then 0 else 37) else 36) else
  if l = 118 then (if inR x P.vars.length then 0 else 36) else
  if l = 108 then (if inR x P.locks then 0 else 36) else
  if l = 99 then (if inR x P.chans.length then 0 else 36) else
  if l = 115 then (if inR x f.sels.length then 0 else 36) else
  if l = 102 then (if inR x P.fns.length then 0 else 36) else
  if l = 116 then (if inR x f.code.length then 0 else 38) else 0
def fst4 (a b c d : Int) : Int := if a = 0 then (if b = 0 then (if c = 0 then d else c) else b) else a
abbrev unused (i : Ins) : Prop := lt i.op 0 = 45 ∧ i.a ≠ 0 ∨ lt i.op 1 = 45 ∧ i.b ≠ 0 ∨ lt i.op 2 = 45 ∧ i.c ≠ 0 ∨ lt i.op 3 = 45 ∧ i.n ≠ 0
/-- What is wrong with an instruction. -/
def insE (r : Prop) [Decidable r] (P : Pr) (f : Fn) (i : Ins) : Int :=
  if known i.op then (if unused i then 34 else fst4 (opndE r P f (lt i.op 0) i.a) (opndE r P f (lt i.op 1) i.b) (opndE r P f (lt i.op 2) i.c) (opndE r P f (lt i.op 3) i.n)) else 33
def insP (P : Pr) (f : Fn) (i : Ins) : Int := insE (roomP (P.par i.b) i.c f.regs) P f i
def insR (P : Pr) (f : Fn) (i : Ins) : Int := insE (roomR (P.par i.b) i.c f.regs) P f i
def Pr.room (P : Pr) (c : Int) : Int := match P.chans[c.toNat]? with | some x => x | none => 0
/-- What is wrong with a case, a select. -/
def casE (P : Pr) (f : Fn) (c : Cas) : Int :=
  if inR c.ch P.chans.length then (if inR c.reg f.regs ∨ c.reg = -1 ∧ c.send = false then (if c.send = true ∧ P.room c.ch = 0 then 37 else if inR c.to f.code.length then 0 else 38) else 35) else 36
def selE (P : Pr) (f : Fn) (s : Sel) : Int :=
  if firstE (casE P f) s.cases = 0 then (if s.els = -1 ∨ inR s.els f.code.length then 0 else 38) else firstE (casE P f) s.cases
abbrev shaped (f : Fn) : Prop := (0 ≤ f.regs ∧ f.regs ≤ 8) ∧ (0 ≤ f.params ∧ f.params ≤ f.regs) ∧ (1 ≤ f.code.length ∧ f.code.length ≤ 64) ∧ f.sels.length ≤ 4 ∧ ∀ s ∈ f.sels, 1 ≤ s.cases.length ∧ s.cases.length ≤ 4
abbrev ends (op : Int) : Prop := op = 42 ∨ op = 45 ∨ op = 61
def lastOp (f : Fn) : Int := match f.code.getLast? with | some i => i.op | none => 0
/-- What is wrong with a function, and at which place. -/
def fnE (ins : Pr → Fn → Ins → Int) (P : Pr) (n : Nat) (f : Fn) : Int × Int :=
  if shaped f ∧ (n = 0 → f.params = 0) then
    (if firstE (selE P f) f.sels = 0 then
      (if firstE (ins P f) f.code = 0 then (if ends (lastOp f) then (0, 0) else (39, (f.code.length : Int) - 1)) else ((firstAt (ins P f) f.code 0).1, ((firstAt (ins P f) f.code 0).2 : Int)))
    else (firstE (selE P f) f.sels, 0))
  else (32, 0)
def sizesE (P : Pr) : Int :=
  if P.vars.length ≤ 8 ∧ (0 ≤ P.locks ∧ P.locks ≤ 4) ∧ P.chans.length ≤ 4 ∧ (1 ≤ P.fns.length ∧ P.fns.length ≤ 8) then firstE (fun c => if 0 ≤ c ∧ c ≤ 4 then 0 else 31) P.chans else 30
def fnsE (ins : Pr → Fn → Ins → Int) (P : Pr) : List Fn → Nat → Int × Int × Int
  | [], _ => (0, 0, 0)
  | f :: t, n => if (fnE ins P n f).1 = 0 then fnsE ins P t (n + 1) else ((fnE ins P n f).1, n, (fnE ins P n f).2)
def chk (ins : Pr → Fn → Ins → Int) (P : Pr) : Int × Int × Int := if sizesE P = 0 then fnsE ins P P.fns 0 else (sizesE P, 0, 0)
theorem fnsE_zero (ins : Pr → Fn → Ins → Int) (P : Pr) (l : List Fn) (j : Nat) (h : ∀ i f, l[i]? = some f → (fnE ins P (j + i) f).1 = 0) : fnsE ins P l j = (0, 0, 0) := by
  induction l generalizing j with
  | nil => rfl
  | cons x t ih =>
    have h0 := h 0 x rfl
    rw [Nat.add_zero] at h0
    simp only [fnsE, h0, if_true]
    exact ih (j + 1) fun i f hf => by have := h (i + 1) f (by simpa using hf); rwa [show j + 1 + i = j + (i + 1) by omega]
theorem fnsE_hit (ins : Pr → Fn → Ins → Int) (P : Pr) (l : List Fn) (j k : Nat) (x : Fn) (hk : l[k]? = some x) (h : ∀ i f, i < k → l[i]? = some f → (fnE ins P (j + i) f).1 = 0) (hx : (fnE ins P (j + k) x).1 ≠ 0) :
    fnsE ins P l j = ((fnE ins P (j + k) x).1, ((j + k : Nat) : Int), (fnE ins P (j + k) x).2) := by
  induction l generalizing j k with
  | nil => simp at hk
  | cons y t ih =>
    cases k with
    | zero =>
      simp at hk
      subst hk
      rw [Nat.add_zero] at hx ⊢
      simp only [fnsE, hx, if_false]
    | succ k =>
      simp at hk
      have h0 := h 0 y (by omega) rfl
      rw [Nat.add_zero] at h0
      simp only [fnsE, h0, if_true]
      rw [show j + (k + 1) = j + 1 + k by omega] at hx ⊢
      exact ih (j + 1) k hk (fun i f hi hf => by have := h (i + 1) f (by omega) (by simpa using hf); rwa [show j + 1 + i = j + (i + 1) by omega]) hx
theorem casE_obj {P : Pr} {f : Fn} {c : Cas} (h : ¬ inR c.ch P.chans.length) : casE P f c = 36 := by unfold casE; rw [if_neg h]
theorem casE_reg {P : Pr} {f : Fn} {c : Cas} (h : inR c.ch P.chans.length) (h2 : ¬ (inR c.reg f.regs ∨ c.reg = -1 ∧ c.send = false)) : casE P f c = 35 := by unfold casE; rw [if_pos h, if_neg h2]
theorem casE_kind {P : Pr} {f : Fn} {c : Cas} (h : inR c.ch P.chans.length) (h2 : inR c.reg f.regs ∨ c.reg = -1 ∧ c.send = false) (h3 : c.send = true ∧ P.room c.ch = 0) : casE P f c = 37 := by unfold casE; rw [if_pos h, if_pos h2, if_pos h3]
theorem casE_target {P : Pr} {f : Fn} {c : Cas} (h : inR c.ch P.chans.length) (h2 : inR c.reg f.regs ∨ c.reg = -1 ∧ c.send = false) (h3 : ¬ (c.send = true ∧ P.room c.ch = 0)) (h4 : ¬ inR c.to f.code.length) : casE P f c = 38 := by
  unfold casE; rw [if_pos h, if_pos h2, if_neg h3, if_neg h4]
theorem casE_ok {P : Pr} {f : Fn} {c : Cas} (h : inR c.ch P.chans.length) (h2 : inR c.reg f.regs ∨ c.reg = -1 ∧ c.send = false) (h3 : ¬ (c.send = true ∧ P.room c.ch = 0)) (h4 : inR c.to f.code.length) : casE P f c = 0 := by
  unfold casE; rw [if_pos h, if_pos h2, if_neg h3, if_pos h4]
end Go.Proofs.YtjcmhaaohdmjpaaDoor.pg
/- The table of forms that package prog lays, as its row lists it; the contracts of prog.Form, Local, Visible, word.Arity and the document's own. -/
namespace Go.Proofs.YtjcmhaaohdmjpaaDoor.prog
open Go.ChangeShapes Go.WideShapes Go.ChangeAt Go.RowKit
set_option linter.unusedVariables false
theorem cells_of_strs {H : Type} {enc : TypeId × Value → H} {P : Program} {w : World} {base : Nat} {sp : Nat → Bool} {held : Bool} {fuel : Nat} {t e : TypeId} {n : Nat} {cs : List Value} {ss : List (List UInt8)} {p : List MemPlace}
    (ht : P.underlying t = some (.array n e)) (he : P.underlying e = some .string) (hce : P.cellsOf e = 1) (hct : P.cellsOf t = n)
    (h : DataW.trod enc P w base sp held fuel t cs = some (.agg (ss.map fun s => .lit (.string s)), p)) : cs = ss.map fun s => Value.string ⟨s.toArray⟩ := by
  cases fuel with
  | zero => simp [DataW.trod] at h
  | succ fuel =>
    simp only [DataW.trod, ht, hce, hct, Nat.mul_one] at h
    split at h
    · rename_i hl
      obtain ⟨xs, hm, hx⟩ := Option.map_eq_some_iff.1 h
      have hxs : xs.map (·.1) = ss.map fun s => (DataW.lit (.string s) : DataW H) := by
        have := congrArg Prod.fst hx
        simpa using this
      have hxl : xs.length = n := by simpa using Lib.mapM_length hm
      have hzl : ss.length = n := by
        have := congrArg List.length hxs
        simp at this
        omega
      apply List.ext_getElem?
      intro i
      by_cases hi : i < n
      · obtain ⟨b, hb, hf⟩ := Lib.mapM_at hm i i (by simp [hi])
        obtain ⟨z, hc, rfl, _⟩ := DataW.trod_string he hf
        have h1 : cs[i]? = some (.string z) := by
          have := congrArg (·[0]?) hc
          simpa [List.getElem?_take, List.getElem?_drop] using this
        have h2 : (xs.map (·.1))[i]? = some (DataW.lit (.string z.data.toList) : DataW H) := by simp [hb]
        rw [hxs] at h2
        simp only [List.getElem?_map, Option.map_eq_some_iff, DataW.lit.injEq, Lit.string.injEq] at h2
        obtain ⟨z', hz', rfl⟩ := h2
        simp [h1, hz']
      · rw [List.getElem?_eq_none (by omega), List.getElem?_eq_none (by simp; omega)]
    · cases h
/-- The forms, at each operation's number. -/
def tab : List (List UInt8) := [[], [], [], [], [], [], [], [], [], [], [], [], [], [], [], [], [], [], [], [], [], [], [], [], [], [], [], [], [], [], [], [], [], [], [], [], [], [], [], [], [114, 45, 45, 110], [114, 114, 45, 45], [116, 45, 45, 45], [114, 116, 45, 45], [114, 45, 45, 110], [45, 45, 45, 45], [], [], [], [], [114, 118, 45, 45], [118, 114, 45, 45], [111, 97, 114, 45], [114, 97, 114, 119], [97, 114, 45, 45], [108, 45, 45, 45], [108, 45, 45, 45], [114, 108, 45, 45], [99, 114, 45, 45], [111, 99, 111, 45], [99, 45, 45, 45], [115, 45, 45, 45], [111, 102, 112, 45], [114, 45, 45, 45], [45, 45, 45, 45], [114, 45, 45, 110]]
/-- The variable holds the table. -/
def Forms (w : World) : Prop := ∀ i, i < 66 → w.cell? ⟨0, i, none⟩ = some (.string ⟨(tab.getD i []).toArray⟩)
theorem Forms.later {w w' : World} (h : Forms w) (hb : Below w.heap.size w w') : Forms w' := fun i hi => cell_later hb (h i hi)
theorem gForms : Tryd.prog.globalNamed "scarab/prog.forms" = some 0 := by kernel_rfl
theorem forms_of {rest : List (String × DataW Unit)} {W : World} {t : TypeId} (hty : (Tryd.prog.globals[0]?).map (·.type) = some t) (ht : Tryd.prog.underlying t = some (.array 66 9)) (hct : Tryd.prog.cellsOf t = 66)
    (h : laidMet Tryd.prog (("scarab/prog.forms", .agg (tab.map fun s => .lit (.string s))) :: rest) W) : Forms W := by
  obtain ⟨ps, ⟨g', t', cs, fuel, p, q, hg', ht', hvar, hd, _, _⟩, _⟩ := h
  obtain rfl := Option.some.inj (gForms.symm.trans hg')
  obtain rfl := Option.some.inj (hty.symm.trans ht')
  have hcs := cells_of_strs ht Tryd.underlying9 (by kernel_rfl) hct hd
  intro i hi
  have := World.var?_cell gForms hvar i
  rw [this, ← Array.getElem?_toList, hcs]
  have hl : i < tab.length := hi
  simp [hl, List.getD]
/-- The form of an operation. -/
def frm (op : Int) : ByteArray := if op < 0 then ⟨#[]⟩ else if 1 ≤ op ∧ op ≤ 15 then ⟨#[114, 114, 45, 45]⟩ else if 16 ≤ op ∧ op ≤ 36 then ⟨#[114, 114, 114, 45]⟩ else if op < 66 then ⟨(tab.getD op.toNat []).toArray⟩ else ⟨#[]⟩
theorem arity_any (op : Int) (h1 : -9223372036854775808 ≤ op) (h2 : op ≤ 9223372036854775807) (w : World) (r : Int) (hr : (if 1 ≤ op ∧ op ≤ 15 then 1 else if 16 ≤ op ∧ op ≤ 36 then 2 else 0 : Int) = r) :
    Calls Tryd.prog 67 #[.int .i64 op] w fun e w' => e = .returned (.int .i64 r) ∧ w' = w := by
  by_cases ha : 1 ≤ op ∧ op ≤ 15
  · rw [if_pos ha] at hr; subst hr
    obtain ⟨ha, hb⟩ := ha
    go_enter Tryd.func67, Tryd.ntmps67
    go_wp2
    go_ret
    exact ⟨rfl, rfl⟩
  · rw [if_neg ha] at hr
    by_cases hb : 16 ≤ op ∧ op ≤ 36
    · rw [if_pos hb] at hr; subst hr
      obtain ⟨hb, hc⟩ := hb
      clear ha
      go_enter Tryd.func67, Tryd.ntmps67
      go_wp2
      go_ret
      exact ⟨rfl, rfl⟩
    · rw [if_neg hb] at hr; subst hr
      by_cases h0 : op < 1
      · clear ha hb
        go_enter Tryd.func67, Tryd.ntmps67
        go_wp2
        go_ret
        exact ⟨rfl, rfl⟩
      · have h3 : 36 < op := by omega
        clear ha hb
        go_enter Tryd.func67, Tryd.ntmps67
        go_wp2
        go_ret
        exact ⟨rfl, rfl⟩
theorem form_any (op : Int) (h1 : -9223372036854775808 ≤ op) (h2 : op ≤ 9223372036854775807) (w : World) (hF : Forms w) (B : ByteArray) (hB : frm op = B) :
    Calls Tryd.prog 53 #[.int .i64 op] w fun e w' => e = .returned (.string B) ∧ w' = w := by
  have cA := fun w => arity_any op h1 h2 w _ rfl
  unfold frm at hB
  by_cases ha : 1 ≤ op ∧ op ≤ 15
  · rw [if_neg (by omega), if_pos ha] at hB; subst hB
    simp only [if_pos ha] at cA
    clear hF
    go_enter Tryd.func53, Tryd.ntmps53
    go_wp2_with (go_at_call 67; with_reducible refine (cA _).mono ?_; rintro e w' ⟨rfl, hw⟩; replace hw := hw.symm; subst hw)
    go_ret
    exact ⟨rfl, rfl⟩
  · simp only [if_neg ha] at cA
    rw [if_neg ha] at hB
    by_cases hb : 16 ≤ op ∧ op ≤ 36
    · rw [if_neg (by omega), if_pos hb] at hB; subst hB
      simp only [if_pos hb] at cA
      clear hF
      go_enter Tryd.func53, Tryd.ntmps53
      go_wp2_with (go_at_call 67; with_reducible refine (cA _).mono ?_; rintro e w' ⟨rfl, hw⟩; replace hw := hw.symm; subst hw)
      go_ret
      exact ⟨rfl, rfl⟩
    · simp only [if_neg hb] at cA
      rw [if_neg hb] at hB
      by_cases hc : op < 0
      · rw [if_pos hc] at hB; subst hB
        clear hF ha hb
        go_enter Tryd.func53, Tryd.ntmps53
        go_wp2_with (go_at_call 67; with_reducible refine (cA _).mono ?_; rintro e w' ⟨rfl, hw⟩; replace hw := hw.symm; subst hw)
        go_ret
        exact ⟨rfl, rfl⟩
      · rw [if_neg hc] at hB
        by_cases hd : op < 66
        · rw [if_pos hd] at hB; subst hB
          have hcell := hF op.toNat (by omega)
          have h0 : 0 ≤ op := by omega
          generalize (⟨(tab.getD op.toNat []).toArray⟩ : ByteArray) = B at *
          clear hF ha hb hc
          go_enter Tryd.func53, Tryd.ntmps53
          go_wp2_with (go_at_call 67; with_reducible refine (cA _).mono ?_; rintro e w' ⟨rfl, hw⟩; replace hw := hw.symm; subst hw)
          go_ret
          exact ⟨rfl, rfl⟩
        · rw [if_neg hd] at hB; subst hB
          have h0 : 66 ≤ op := by omega
          clear hF ha hb hc hd
          go_enter Tryd.func53, Tryd.ntmps53
          go_wp2_with (go_at_call 67; with_reducible refine (cA _).mono ?_; rintro e w' ⟨rfl, hw⟩; replace hw := hw.symm; subst hw)
          go_ret
          exact ⟨rfl, rfl⟩
set_option maxHeartbeats 4000000 in
theorem refform_any (op : Int) (h1 : -9223372036854775808 ≤ op) (h2 : op ≤ 9223372036854775807) (w : World) (B : ByteArray) (hB : frm op = B) :
    Calls Tryd.prog 61 #[.int .i64 op] w fun e w' => e = .returned (.string B) ∧ w' = w := by
  by_cases ha : 1 ≤ op ∧ op ≤ 15
  · unfold frm at hB
    rw [if_neg (by omega), if_pos ha] at hB; subst hB
    obtain ⟨ha, hb⟩ := ha
    go_enter Tryd.func61, Tryd.ntmps61
    go_wp2
    go_ret
    exact ⟨rfl, rfl⟩
  · by_cases hb : 16 ≤ op ∧ op ≤ 36
    · unfold frm at hB
      rw [if_neg (by omega), if_neg ha, if_pos hb] at hB; subst hB
      obtain ⟨hb, hc⟩ := hb
      clear ha
      go_enter Tryd.func61, Tryd.ntmps61
      go_wp2
      go_ret
      exact ⟨rfl, rfl⟩
    · by_cases hd : 37 ≤ op ∧ op ≤ 65
      · rcases (by omega : op = 37 ∨ op = 38 ∨ op = 39 ∨ op = 40 ∨ op = 41 ∨ op = 42 ∨ op = 43 ∨ op = 44 ∨ op = 45 ∨ op = 46 ∨ op = 47 ∨ op = 48 ∨ op = 49 ∨ op = 50 ∨ op = 51 ∨ op = 52 ∨ op = 53 ∨ op = 54 ∨ op = 55 ∨ op = 56 ∨ op = 57 ∨ op = 58 ∨ op = 59 ∨ op = 60 ∨ op = 61 ∨ op = 62 ∨ op = 63 ∨ op = 64 ∨ op = 65) with rfl | rfl | rfl | rfl | rfl | rfl | rfl | rfl | rfl | rfl | rfl | rfl | rfl | rfl | rfl | rfl | rfl | rfl | rfl | rfl | rfl | rfl | rfl | rfl | rfl | rfl | rfl | rfl | rfl
        all_goals
          subst hB
          clear ha hb hd h1 h2
          go_enter Tryd.func61, Tryd.ntmps61
          go_wp2
          go_ret
          exact ⟨rfl, rfl⟩
      · have hB2 : (⟨#[]⟩ : ByteArray) = B := by
          rw [← hB]; unfold frm
          by_cases h0 : op < 0
          · rw [if_pos h0]
          · rw [if_neg h0, if_neg ha, if_neg hb]
            by_cases h6 : op < 66
            · have : op = 0 := by omega
              subst this; rfl
            · rw [if_neg h6]
        subst hB2
        by_cases h0 : op < 1
        · clear ha hb hd hB
          go_enter Tryd.func61, Tryd.ntmps61
          go_wp2
          go_ret
          exact ⟨rfl, rfl⟩
        · have h3 : 65 < op := by omega
          clear ha hb hd hB h0
          go_enter Tryd.func61, Tryd.ntmps61
          go_wp2
          go_ret
          exact ⟨rfl, rfl⟩
/-- Local, visible. -/
def loc (op : Int) : Bool := decide ((1 ≤ op ∧ op ≤ 36) ∨ (40 ≤ op ∧ op ≤ 45))
def vis (op : Int) : Bool := decide (50 ≤ op ∧ op ≤ 65)
theorem frm_empty (op : Int) : ((frm op).toList == []) = !(loc op || vis op) := by
  by_cases hd : 37 ≤ op ∧ op ≤ 65
  · rcases (by omega : op = 37 ∨ op = 38 ∨ op = 39 ∨ op = 40 ∨ op = 41 ∨ op = 42 ∨ op = 43 ∨ op = 44 ∨ op = 45 ∨ op = 46 ∨ op = 47 ∨ op = 48 ∨ op = 49 ∨ op = 50 ∨ op = 51 ∨ op = 52 ∨ op = 53 ∨ op = 54 ∨ op = 55 ∨ op = 56 ∨ op = 57 ∨ op = 58 ∨ op = 59 ∨ op = 60 ∨ op = 61 ∨ op = 62 ∨ op = 63 ∨ op = 64 ∨ op = 65) with rfl | rfl | rfl | rfl | rfl | rfl | rfl | rfl | rfl | rfl | rfl | rfl | rfl | rfl | rfl | rfl | rfl | rfl | rfl | rfl | rfl | rfl | rfl | rfl | rfl | rfl | rfl | rfl | rfl <;> rw [ByteArray.toList_eq] <;> rfl
  · by_cases ha : 1 ≤ op ∧ op ≤ 15
    · unfold frm loc; rw [if_neg (by omega), if_pos ha, decide_eq_true (by omega), ByteArray.toList_eq]; rfl
    · by_cases hb : 16 ≤ op ∧ op ≤ 36
      · unfold frm loc; rw [if_neg (by omega), if_neg ha, if_pos hb, decide_eq_true (by omega), ByteArray.toList_eq]; rfl
      · have e : frm op = ⟨#[]⟩ := by
          unfold frm
          by_cases h0 : op < 0
          · rw [if_pos h0]
          · rw [if_neg h0, if_neg ha, if_neg hb]
            by_cases h6 : op < 66
            · have : op = 0 := by omega
              subst this; rfl
            · rw [if_neg h6]
        unfold loc vis
        rw [e, decide_eq_false (by omega), decide_eq_false (by omega), ByteArray.toList_eq]; rfl
theorem ret_bool {a b : Bool} (h : a = b) : Ending.returned (.bool a) = .returned (.bool b) := by rw [h]
theorem local_any (op : Int) (h1 : -9223372036854775808 ≤ op) (h2 : op ≤ 9223372036854775807) (w : World) (hF : Forms w) (r : Bool) (hr : loc op = r) :
    Calls Tryd.prog 34 #[.int .i64 op] w fun e w' => e = .returned (.bool r) ∧ w' = w := by
  have cF := fun w hF => form_any op h1 h2 w hF _ rfl
  replace cF := cF w hF
  have he := frm_empty op
  generalize frm op = B at *
  subst hr
  by_cases hl : (1 ≤ op ∧ op ≤ 36) ∨ (40 ≤ op ∧ op ≤ 45)
  · have hl2 : loc op = true := decide_eq_true hl
    rw [hl2] at he ⊢
    have he' : (B.toList == []) = false := he
    have h45 : op ≤ 45 := by omega
    clear he hl hl2 hF
    go_enter Tryd.func34, Tryd.ntmps34
    go_wp2_with (go_at_call 53; with_reducible refine cF.mono ?_; rintro e w' ⟨rfl, hw⟩; replace hw := hw.symm; subst hw)
    go_ret
    exact ⟨ret_bool (by first | rfl | (simp <;> omega)), rfl⟩
  · have hl2 : loc op = false := decide_eq_false hl
    rw [hl2] at he ⊢
    by_cases hv : 50 ≤ op ∧ op ≤ 65
    · have hv2 : vis op = true := decide_eq_true hv
      rw [hv2] at he
      have he' : (B.toList == []) = false := he
      have h45 : 45 < op := by omega
      clear he hl hl2 hF hv hv2
      go_enter Tryd.func34, Tryd.ntmps34
      go_wp2_with (go_at_call 53; with_reducible refine cF.mono ?_; rintro e w' ⟨rfl, hw⟩; replace hw := hw.symm; subst hw)
      go_ret
      exact ⟨ret_bool (by first | rfl | (simp <;> omega)), rfl⟩
    · have hv2 : vis op = false := decide_eq_false hv
      rw [hv2] at he
      have he' : (B.toList == []) = true := he
      clear he hl hl2 hF hv hv2
      go_enter Tryd.func34, Tryd.ntmps34
      go_wp2_with (go_at_call 53; with_reducible refine cF.mono ?_; rintro e w' ⟨rfl, hw⟩; replace hw := hw.symm; subst hw)
      go_ret
      exact ⟨ret_bool (by first | rfl | (simp <;> omega)), rfl⟩
theorem reflocal_any (op : Int) (h1 : -9223372036854775808 ≤ op) (h2 : op ≤ 9223372036854775807) (w : World) (r : Bool) (hr : loc op = r) :
    Calls Tryd.prog 36 #[.int .i64 op] w fun e w' => e = .returned (.bool r) ∧ w' = w := by
  subst hr
  rcases (by omega : op < 1 ∨ (1 ≤ op ∧ op ≤ 36) ∨ (36 < op ∧ op < 40) ∨ (40 ≤ op ∧ op ≤ 45) ∨ 45 < op) with h | h | h | h | h
  all_goals
    first | rw [show loc op = true from decide_eq_true (by omega)] | rw [show loc op = false from decide_eq_false (by omega)]
    go_enter Tryd.func36, Tryd.ntmps36
    go_wp2
    go_ret
    exact ⟨ret_bool (by first | rfl | (simp <;> omega)), rfl⟩
theorem refvisible_any (op : Int) (h1 : -9223372036854775808 ≤ op) (h2 : op ≤ 9223372036854775807) (w : World) (r : Bool) (hr : vis op = r) :
    Calls Tryd.prog 60 #[.int .i64 op] w fun e w' => e = .returned (.bool r) ∧ w' = w := by
  subst hr
  rcases (by omega : op < 50 ∨ (50 ≤ op ∧ op ≤ 65) ∨ 65 < op) with h | h | h
  all_goals
    first | rw [show vis op = true from decide_eq_true (by omega)] | rw [show vis op = false from decide_eq_false (by omega)]
    go_enter Tryd.func60, Tryd.ntmps60
    go_wp2
    go_ret
    exact ⟨ret_bool (by first | rfl | (simp <;> omega)), rfl⟩
end Go.Proofs.YtjcmhaaohdmjpaaDoor.prog
