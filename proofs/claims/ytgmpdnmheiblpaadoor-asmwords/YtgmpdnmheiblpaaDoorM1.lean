/- Programs as plain data, where they lie in memory, and what is wrong with them: the data, no word of the program that is proved. -/
import Derived.WalkKit
import Derived.ProofKit
import Derived.OpenShut
import Derived.Deep.Slices
import Derived.ChangeSame
import Derived.WalkSmall
import Derived.Lib.SmallJoins
import Derived.Lib.ItoaNum
namespace Go.Proofs.YtgmpdnmheiblpaaDoor.pg
open Go.ChangeShapes Go.WideShapes Go.ChangeAt Go.RowKit
set_option linter.unusedVariables false
/-- An instruction. -/
structure Ins where
  op : Int
  a : Int
  b : Int
  c : Int
  n : Int
/-- A case of a select. -/
structure Cas where
  send : Bool
  ch : Int
  reg : Int
  to : Int
/-- A select, and where its cases lie. -/
structure MSel where
  at_ : Option Addr
  cap : Nat
  cases : List Cas
  els : Int
/-- A function, and where its lists lie. -/
structure MFn where
  params : Int
  regs : Int
  ca : Option Addr
  ccap : Nat
  code : List Ins
  sa : Option Addr
  scap : Nat
  sels : List MSel
/-- A shared variable. -/
structure Vr where
  atomic : Bool
  init : Int
/-- A program, and where its lists lie. -/
structure MPr where
  va : Option Addr
  vcap : Nat
  vars : List Vr
  locks : Int
  cha : Option Addr
  chcap : Nat
  chans : List Int
  fa : Option Addr
  fcap : Nat
  fns : List MFn
/-- The same without places. -/
structure Sel where
  cases : List Cas
  els : Int
structure Fn where
  params : Int
  regs : Int
  code : List Ins
  sels : List Sel
structure Pr where
  vars : List Vr
  locks : Int
  chans : List Int
  fns : List Fn
def MSel.sel (s : MSel) : Sel := ⟨s.cases, s.els⟩
def MFn.fn (f : MFn) : Fn := ⟨f.params, f.regs, f.code, f.sels.map MSel.sel⟩
def MPr.pr (p : MPr) : Pr := ⟨p.vars, p.locks, p.chans, p.fns.map MFn.fn⟩
/-- Cells. -/
def Ins.cells (x : Ins) : List Value := [.int .i64 x.op, .int .i64 x.a, .int .i64 x.b, .int .i64 x.c, .int .i64 x.n]
def Cas.cells (x : Cas) : List Value := [.bool x.send, .int .i64 x.ch, .int .i64 x.reg, .int .i64 x.to]
def MSel.cells (x : MSel) : List Value := [.slice x.at_ x.cases.length x.cap, .int .i64 x.els]
def MFn.cells (x : MFn) : List Value := [.int .i64 x.params, .int .i64 x.regs, .slice x.ca x.code.length x.ccap, .slice x.sa x.sels.length x.scap]
def Vr.cells (x : Vr) : List Value := [.bool x.atomic, .int .i64 x.init]
def chCells (x : Int) : List Value := [.int .i64 x]
abbrev MSel.val (x : MSel) : Value := .agg #[.slice x.at_ x.cases.length x.cap, .int .i64 x.els]
abbrev Cas.val (x : Cas) : Value := .agg #[.bool x.send, .int .i64 x.ch, .int .i64 x.reg, .int .i64 x.to]
abbrev Ins.val (x : Ins) : Value := .agg #[.int .i64 x.op, .int .i64 x.a, .int .i64 x.b, .int .i64 x.c, .int .i64 x.n]
abbrev MFn.val (x : MFn) : Value := .agg #[.int .i64 x.params, .int .i64 x.regs, .slice x.ca x.code.length x.ccap, .slice x.sa x.sels.length x.scap]
abbrev MPr.val (p : MPr) : Value := .agg #[.slice p.va p.vars.length p.vcap, .int .i64 p.locks, .slice p.cha p.chans.length p.chcap, .slice p.fa p.fns.length p.fcap]
/-- Numbers of 64 bits. -/
def I64 (z : Int) : Prop := -9223372036854775808 ≤ z ∧ z ≤ 9223372036854775807
def Ins.wf (x : Ins) : Prop := I64 x.op ∧ I64 x.a ∧ I64 x.b ∧ I64 x.c ∧ I64 x.n
def Cas.wf (x : Cas) : Prop := I64 x.ch ∧ I64 x.reg ∧ I64 x.to
/-- Rows of k cells each, in memory, one behind the other. -/
def Rows (w : World) (k : Nat) (a : Option Addr) (cap : Nat) (L : List (List Value)) : Prop :=
  L.length ≤ cap ∧ cap ≤ 9223372036854775807 ∧ (a = none → L = [] ∧ cap = 0) ∧
    (L = [] ∨ ∃ b off, a = some ⟨b, off, none⟩ ∧ b < w.heap.size ∧ ∀ i row, L[i]? = some row → row.length = k ∧ ∀ j u, row[j]? = some u → w.cell? ⟨b, off + (i * k + j), none⟩ = some u)
theorem Rows.later {w w' : World} {k : Nat} {a : Option Addr} {cap : Nat} {L : List (List Value)} (h : Rows w k a cap L) (hb : Below w.heap.size w w') : Rows w' k a cap L := by
  obtain ⟨h1, h2, h3, h4⟩ := h
  refine ⟨h1, h2, h3, h4.imp_right fun ⟨b, off, ha, hlt, hc⟩ => ⟨b, off, ha, Nat.lt_of_lt_of_le hlt hb.size, fun i row hi => ⟨(hc i row hi).1, fun j u hj => ?_⟩⟩⟩
  rw [hb.cell (p := ⟨b, off + (i * k + j), none⟩) hlt]
  exact (hc i row hi).2 j u hj
def MSel.lies (w : World) (s : MSel) : Prop := Rows w 4 s.at_ s.cap (s.cases.map Cas.cells) ∧ (∀ x ∈ s.cases, x.wf) ∧ I64 s.els
def MFn.lies (w : World) (f : MFn) : Prop := Rows w 5 f.ca f.ccap (f.code.map Ins.cells) ∧ Rows w 2 f.sa f.scap (f.sels.map MSel.cells) ∧ (∀ x ∈ f.code, x.wf) ∧ (∀ s ∈ f.sels, s.lies w) ∧ I64 f.params ∧ I64 f.regs
def MPr.lies (w : World) (p : MPr) : Prop := Rows w 2 p.va p.vcap (p.vars.map Vr.cells) ∧ Rows w 1 p.cha p.chcap (p.chans.map chCells) ∧ Rows w 4 p.fa p.fcap (p.fns.map MFn.cells) ∧
  (∀ x ∈ p.vars, I64 x.init) ∧ I64 p.locks ∧ (∀ x ∈ p.chans, I64 x) ∧ ∀ f ∈ p.fns, f.lies w
theorem MSel.lies.later {w w' : World} {s : MSel} (h : s.lies w) (hb : Below w.heap.size w w') : s.lies w' := ⟨h.1.later hb, h.2⟩
theorem MFn.lies.later {w w' : World} {f : MFn} (h : f.lies w) (hb : Below w.heap.size w w') : f.lies w' := ⟨h.1.later hb, h.2.1.later hb, h.2.2.1, fun s hs => (h.2.2.2.1 s hs).later hb, h.2.2.2.2⟩
theorem MPr.lies.later {w w' : World} {p : MPr} (h : p.lies w) (hb : Below w.heap.size w w') : p.lies w' := ⟨h.1.later hb, h.2.1.later hb, h.2.2.1.later hb, h.2.2.2.1, h.2.2.2.2.1, h.2.2.2.2.2.1, fun f hf => (h.2.2.2.2.2.2 f hf).later hb⟩
/-- Cells of a row, one by one. -/
theorem Rows.row {w : World} {k : Nat} {a : Option Addr} {cap : Nat} {L : List (List Value)} (h : Rows w k a cap L) {i : Nat} {row : List Value} (hi : L[i]? = some row) :
    ∃ b off, a = some ⟨b, off, none⟩ ∧ b < w.heap.size ∧ ∀ j u, row[j]? = some u → w.cell? ⟨b, off + (i * k + j), none⟩ = some u := by
  rcases h.2.2.2 with h0 | ⟨b, off, ha, hlt, hc⟩
  · subst h0; simp at hi
  · exact ⟨b, off, ha, hlt, (hc i row hi).2⟩
theorem ins_at {w : World} {a : Option Addr} {cap : Nat} {l : List Ins} (h : Rows w 5 a cap (l.map Ins.cells)) (i : Nat) (x : Ins) (hi : l[i]? = some x) :
    ∃ b off, a = some ⟨b, off, none⟩ ∧ b < w.heap.size ∧ w.cell? ⟨b, off + i * 5, none⟩ = some (.int .i64 x.op) ∧ w.cell? ⟨b, off + (i * 5 + 1), none⟩ = some (.int .i64 x.a) ∧ w.cell? ⟨b, off + (i * 5 + 2), none⟩ = some (.int .i64 x.b) ∧
      w.cell? ⟨b, off + (i * 5 + 3), none⟩ = some (.int .i64 x.c) ∧ w.cell? ⟨b, off + (i * 5 + 4), none⟩ = some (.int .i64 x.n) := by
  obtain ⟨b, off, ha, hlt, hc⟩ := h.row (i := i) (row := x.cells) (by simp [hi])
  exact ⟨b, off, ha, hlt, hc 0 _ rfl, hc 1 _ rfl, hc 2 _ rfl, hc 3 _ rfl, hc 4 _ rfl⟩
theorem cas_at {w : World} {a : Option Addr} {cap : Nat} {l : List Cas} (h : Rows w 4 a cap (l.map Cas.cells)) (i : Nat) (x : Cas) (hi : l[i]? = some x) :
    ∃ b off, a = some ⟨b, off, none⟩ ∧ b < w.heap.size ∧ w.cell? ⟨b, off + i * 4, none⟩ = some (.bool x.send) ∧ w.cell? ⟨b, off + (i * 4 + 1), none⟩ = some (.int .i64 x.ch) ∧ w.cell? ⟨b, off + (i * 4 + 2), none⟩ = some (.int .i64 x.reg) ∧
      w.cell? ⟨b, off + (i * 4 + 3), none⟩ = some (.int .i64 x.to) := by
  obtain ⟨b, off, ha, hlt, hc⟩ := h.row (i := i) (row := x.cells) (by simp [hi])
  exact ⟨b, off, ha, hlt, hc 0 _ rfl, hc 1 _ rfl, hc 2 _ rfl, hc 3 _ rfl⟩
theorem sel_at {w : World} {a : Option Addr} {cap : Nat} {l : List MSel} (h : Rows w 2 a cap (l.map MSel.cells)) (i : Nat) (x : MSel) (hi : l[i]? = some x) :
    ∃ b off, a = some ⟨b, off, none⟩ ∧ b < w.heap.size ∧ w.cell? ⟨b, off + i * 2, none⟩ = some (.slice x.at_ x.cases.length x.cap) ∧ w.cell? ⟨b, off + (i * 2 + 1), none⟩ = some (.int .i64 x.els) := by
  obtain ⟨b, off, ha, hlt, hc⟩ := h.row (i := i) (row := x.cells) (by simp [hi])
  exact ⟨b, off, ha, hlt, hc 0 _ rfl, hc 1 _ rfl⟩
theorem vr_at {w : World} {a : Option Addr} {cap : Nat} {l : List Vr} (h : Rows w 2 a cap (l.map Vr.cells)) (i : Nat) (x : Vr) (hi : l[i]? = some x) :
    ∃ b off, a = some ⟨b, off, none⟩ ∧ b < w.heap.size ∧ w.cell? ⟨b, off + i * 2, none⟩ = some (.bool x.atomic) ∧ w.cell? ⟨b, off + (i * 2 + 1), none⟩ = some (.int .i64 x.init) := by
  obtain ⟨b, off, ha, hlt, hc⟩ := h.row (i := i) (row := x.cells) (by simp [hi])
  exact ⟨b, off, ha, hlt, hc 0 _ rfl, hc 1 _ rfl⟩
theorem ch_at {w : World} {a : Option Addr} {cap : Nat} {l : List Int} (h : Rows w 1 a cap (l.map chCells)) (i : Nat) (x : Int) (hi : l[i]? = some x) :
    ∃ b off, a = some ⟨b, off, none⟩ ∧ b < w.heap.size ∧ w.cell? ⟨b, off + i, none⟩ = some (.int .i64 x) := by
  obtain ⟨b, off, ha, hlt, hc⟩ := h.row (i := i) (row := chCells x) (by simp [hi])
  exact ⟨b, off, ha, hlt, by have := hc 0 _ rfl; simpa using this⟩
theorem fn_at {w : World} {a : Option Addr} {cap : Nat} {l : List MFn} (h : Rows w 4 a cap (l.map MFn.cells)) (i : Nat) (x : MFn) (hi : l[i]? = some x) :
    ∃ b off, a = some ⟨b, off, none⟩ ∧ b < w.heap.size ∧ w.cell? ⟨b, off + i * 4, none⟩ = some (.int .i64 x.params) ∧ w.cell? ⟨b, off + (i * 4 + 1), none⟩ = some (.int .i64 x.regs) ∧
      w.cell? ⟨b, off + (i * 4 + 2), none⟩ = some (.slice x.ca x.code.length x.ccap) ∧ w.cell? ⟨b, off + (i * 4 + 3), none⟩ = some (.slice x.sa x.sels.length x.scap) := by
  obtain ⟨b, off, ha, hlt, hc⟩ := h.row (i := i) (row := x.cells) (by simp [hi])
  exact ⟨b, off, ha, hlt, hc 0 _ rfl, hc 1 _ rfl, hc 2 _ rfl, hc 3 _ rfl⟩
/-- An element that is there. -/
theorem get_lt {α : Type} (l : List α) (i : Nat) (h : i < l.length) : ∃ x, l[i]? = some x ∧ x ∈ l := ⟨l[i], List.getElem?_eq_getElem h, List.getElem_mem h⟩
end Go.Proofs.YtgmpdnmheiblpaaDoor.pg
/- Goroutines, channels, states as plain data: their cells; and how a goroutine's local instructions are run. -/
namespace Go.Proofs.YtgmpdnmheiblpaaDoor.pg
open Go.ChangeShapes Go.WideShapes Go.ChangeAt Go.RowKit
set_option linter.unusedVariables false
abbrev ints (l : List Int) : List Value := l.map fun x => .int .i64 x
/-- A goroutine. -/
structure Gr where
  st : Int
  fn : Int
  pc : Int
  why : Int
  rg : List Int
/-- A channel. -/
structure Chc where
  buf : List Int
  ln : Int
  shut : Bool
  off : Int
  frm : Int
  val : Int
/-- A state. -/
structure Sts where
  vars : List Int
  own : List Int
  ch : List Chc
  gos : List Gr
  cnt : Int
def Gr.cells (g : Gr) : List Value := [.int .i64 g.st, .int .i64 g.fn, .int .i64 g.pc, .int .i64 g.why] ++ ints g.rg
def Chc.cells (c : Chc) : List Value := ints c.buf ++ [.int .i64 c.ln, .bool c.shut, .int .i64 c.off, .int .i64 c.frm, .int .i64 c.val]
def Sts.cells (s : Sts) : List Value := ints s.vars ++ (ints s.own ++ ((s.ch.map Chc.cells).flatten ++ ((s.gos.map Gr.cells).flatten ++ [.int .i64 s.cnt])))
def AllI (l : List Int) : Prop := ∀ x ∈ l, I64 x
def Gr.wf (g : Gr) : Prop := I64 g.st ∧ I64 g.fn ∧ I64 g.pc ∧ I64 g.why ∧ g.rg.length = 8 ∧ AllI g.rg
def Chc.wf (c : Chc) : Prop := I64 c.ln ∧ I64 c.off ∧ I64 c.frm ∧ I64 c.val ∧ c.buf.length = 4 ∧ AllI c.buf
structure Sts.wf (s : Sts) : Prop where
  lv : s.vars.length = 8
  lo : s.own.length = 4
  lc : s.ch.length = 4
  lg : s.gos.length = 6
  av : AllI s.vars
  ao : AllI s.own
  ac : ∀ c ∈ s.ch, c.wf
  ag : ∀ g ∈ s.gos, g.wf
  cn : I64 s.cnt
theorem Gr.len {g : Gr} (h : g.wf) : g.cells.length = 12 := by simp [Gr.cells, h.2.2.2.2.1]
theorem Chc.len {c : Chc} (h : c.wf) : c.cells.length = 9 := by simp [Chc.cells, h.2.2.2.2.1]
theorem flat_len {α : Type} (C : α → List Value) (k : Nat) : ∀ (l : List α), (∀ x ∈ l, (C x).length = k) → (l.map C).flatten.length = l.length * k
  | [], _ => by simp
  | x :: t, h => by
    rw [List.map_cons, List.flatten_cons, List.length_append, h x (by simp), flat_len C k t fun y hy => h y (by simp [hy]), List.length_cons, Nat.add_mul]
    omega
theorem Sts.len {s : Sts} (h : s.wf) : s.cells.length = 121 := by
  simp only [Sts.cells, List.length_append, List.length_map, h.lv, h.lo, flat_len Chc.cells 9 s.ch fun c hc => Chc.len (h.ac c hc), flat_len Gr.cells 12 s.gos fun g hg => Gr.len (h.ag g hg), h.lc, h.lg, List.length_cons, List.length_nil]
theorem ints_inj : ∀ {a b : List Int}, ints a = ints b → a = b
  | [], [], _ => rfl
  | [], _ :: _, h => by simp at h
  | _ :: _, [], h => by simp at h
  | x :: a, y :: b, h => by
    simp only [List.map_cons, List.cons.injEq, Value.int.injEq, true_and] at h
    rw [h.1, ints_inj h.2]
theorem Gr.inj {a b : Gr} (h : a.cells = b.cells) : a = b := by
  cases a; cases b
  simp only [Gr.cells, List.cons_append, List.cons.injEq, Value.int.injEq, true_and, List.nil_append] at h
  obtain ⟨h1, h2, h3, h4, h5⟩ := h
  rw [h1, h2, h3, h4, ints_inj h5]
theorem Chc.inj {a b : Chc} (ha : a.wf) (hb : b.wf) (h : a.cells = b.cells) : a = b := by
  have l1 := ha.2.2.2.2.1
  have l2 := hb.2.2.2.2.1
  cases a; cases b
  simp only at l1 l2
  have := List.append_inj h (by simp [l1, l2])
  simp only [List.cons.injEq, Value.int.injEq, Value.bool.injEq, true_and, and_true] at this
  obtain ⟨h0, h1, h2, h3, h4, h5⟩ := this
  rw [ints_inj h0, h1, h2, h3, h4, h5]
theorem flat_inj {α : Type} (C : α → List Value) (k : Nat) (inj : ∀ a b, (C a).length = k → (C b).length = k → C a = C b → a = b) : ∀ {l m : List α}, (∀ x ∈ l, (C x).length = k) → (∀ x ∈ m, (C x).length = k) → l.length = m.length → (l.map C).flatten = (m.map C).flatten → l = m
  | [], [], _, _, _, _ => rfl
  | [], _ :: _, _, _, h, _ => by simp at h
  | _ :: _, [], _, _, h, _ => by simp at h
  | x :: l, y :: m, h1, h2, hl, h => by
    rw [List.map_cons, List.map_cons, List.flatten_cons, List.flatten_cons] at h
    have hx := h1 x (by simp)
    have hy := h2 y (by simp)
    obtain ⟨e1, e2⟩ := List.append_inj h (by rw [hx, hy])
    rw [inj x y hx hy e1, flat_inj C k inj (fun z hz => h1 z (by simp [hz])) (fun z hz => h2 z (by simp [hz])) (by simpa using hl) e2]
theorem chs_inj : ∀ {l m : List Chc}, (∀ x ∈ l, x.wf) → (∀ x ∈ m, x.wf) → l.length = m.length → (l.map Chc.cells).flatten = (m.map Chc.cells).flatten → l = m
  | [], [], _, _, _, _ => rfl
  | [], _ :: _, _, _, h, _ => by simp at h
  | _ :: _, [], _, _, h, _ => by simp at h
  | x :: l, y :: m, h1, h2, hl, h => by
    rw [List.map_cons, List.map_cons, List.flatten_cons, List.flatten_cons] at h
    have hx := h1 x (by simp)
    have hy := h2 y (by simp)
    obtain ⟨e1, e2⟩ := List.append_inj h (by rw [Chc.len hx, Chc.len hy])
    rw [Chc.inj hx hy e1, chs_inj (fun z hz => h1 z (by simp [hz])) (fun z hz => h2 z (by simp [hz])) (by simpa using hl) e2]
theorem Sts.inj {a b : Sts} (ha : a.wf) (hb : b.wf) (h : a.cells = b.cells) : a = b := by
  obtain ⟨h1, h2⟩ := List.append_inj h (by simp [ha.lv, hb.lv])
  obtain ⟨h3, h4⟩ := List.append_inj h2 (by simp [ha.lo, hb.lo])
  obtain ⟨h5, h6⟩ := List.append_inj h4 (by rw [flat_len Chc.cells 9 _ fun c hc => Chc.len (ha.ac c hc), flat_len Chc.cells 9 _ fun c hc => Chc.len (hb.ac c hc), ha.lc, hb.lc])
  obtain ⟨h7, h8⟩ := List.append_inj h6 (by rw [flat_len Gr.cells 12 _ fun c hc => Gr.len (ha.ag c hc), flat_len Gr.cells 12 _ fun c hc => Gr.len (hb.ag c hc), ha.lg, hb.lg])
  have e1 := ints_inj h1
  have e2 := ints_inj h3
  have e3 := chs_inj ha.ac hb.ac (by rw [ha.lc, hb.lc]) h5
  have e4 := flat_inj Gr.cells 12 (fun _ _ _ _ q => Gr.inj q) (fun g hg => Gr.len (ha.ag g hg)) (fun g hg => Gr.len (hb.ag g hg)) (by rw [ha.lg, hb.lg]) h7
  cases a; cases b
  simp only [List.cons.injEq, Value.int.injEq, true_and, and_true] at h8
  simp only at e1 e2 e3 e4 h8
  rw [e1, e2, e3, e4, h8]
/-- A register. -/
def Gr.get (g : Gr) (a : Int) : Int := g.rg.getD a.toNat 0
def Gr.set (g : Gr) (a x : Int) : Gr := { g with rg := g.rg.set a.toNat x }
def Gr.adv (g : Gr) : Gr := { g with pc := g.pc + 1 }
def zero8 : List Int := [0, 0, 0, 0, 0, 0, 0, 0]
/-- One that has ended where it stands. -/
def Gr.end (g : Gr) (st why : Int) : Gr := ⟨st, g.fn, g.pc, why, zero8⟩
/-- Behind one local instruction; ap: what an operation makes, and why it makes nothing. -/
def loc1 (ap : Int → Int → Int → Int × Int) (g : Gr) (i : Ins) : Gr :=
  if i.op = 40 then (g.set i.a i.n).adv
  else if i.op = 41 then (g.set i.a (g.get i.b)).adv
  else if i.op = 42 then { g with pc := i.a }
  else if i.op = 43 then (if g.get i.a = 0 then g.adv else { g with pc := i.b })
  else if i.op = 44 then (if g.get i.a = 0 then g.end 4 1 else g.adv)
  else if i.op = 45 then g.end 3 0
  else if (ap i.op (g.get i.b) (g.get i.c)).2 = 20 then g.end 4 2
  else if (ap i.op (g.get i.b) (g.get i.c)).2 = 21 then g.end 4 3
  else (g.set i.a (ap i.op (g.get i.b) (g.get i.c)).1).adv
/-- The instruction at a place. -/
def insAt (code : List Ins) (pc : Int) : Ins := code.getD pc.toNat ⟨0, 0, 0, 0, 0⟩
/-- Behind its local instructions, as far as the fuel goes. -/
def runG (ap : Int → Int → Int → Int × Int) (lc : Int → Bool) (code : List Ins) : Nat → Gr → Gr
  | 0, g => if g.st = 1 ∧ lc (insAt code g.pc).op = true then { g with st := 5 } else g
  | f + 1, g => if g.st = 1 ∧ lc (insAt code g.pc).op = true then runG ap lc code f (loc1 ap g (insAt code g.pc)) else g
end Go.Proofs.YtgmpdnmheiblpaaDoor.pg
/- The text of a trace, as bytes: which trace it is of can be told from it. -/
namespace Go.Proofs.YtgmpdnmheiblpaaDoor.pg
set_option linter.unusedVariables false
/-- A sign of a number. -/
def isN (b : UInt8) : Prop := b.toNat = 45 ∨ 48 ≤ b.toNat ∧ b.toNat ≤ 57
theorem cut_num {c c' : UInt8} {r r' : List UInt8} (hc : ¬ isN c) (hc' : ¬ isN c') : ∀ {u u' : List UInt8}, (∀ b ∈ u, isN b) → (∀ b ∈ u', isN b) → u ++ c :: r = u' ++ c' :: r' → u = u' ∧ c = c' ∧ r = r'
  | [], [], _, _, e => by
    simp only [List.nil_append, List.cons.injEq] at e
    exact ⟨rfl, e⟩
  | [], b :: u', _, h', e => by
    simp only [List.nil_append, List.cons_append, List.cons.injEq] at e
    exact absurd (e.1 ▸ h' b (by simp)) hc
  | a :: u, [], h, _, e => by
    simp only [List.nil_append, List.cons_append, List.cons.injEq] at e
    exact absurd (e.1 ▸ h a (by simp)) hc'
  | a :: u, b :: u', h, h', e => by
    simp only [List.cons_append, List.cons.injEq] at e
    obtain ⟨i1, i2⟩ := cut_num hc hc' (fun b hb => h b (by simp [hb])) (fun b hb => h' b (by simp [hb])) e.2
    exact ⟨by rw [e.1, i1], i2⟩
/-- The number that digits say. -/
def dval (l : List UInt8) : Nat := l.foldl (fun a b => a * 10 + (b.toNat - 48)) 0
theorem dval_snoc (l : List UInt8) (b : UInt8) : dval (l ++ [b]) = dval l * 10 + (b.toNat - 48) := by
  unfold dval
  rw [List.foldl_append]
  rfl
theorem dig_nat {u : Nat} (h : u < 10) : (UInt8.ofNat (48 + u)).toNat = 48 + u := by
  rw [UInt8.toNat_ofNat']
  omega
theorem dec_all : ∀ (u : Nat), dval (Lib.decDigits u) = u ∧ ∀ b ∈ Lib.decDigits u, 48 ≤ b.toNat ∧ b.toNat ≤ 57 := by
  intro u
  induction u using Nat.strongRecOn with
  | ind u ih =>
    rw [Lib.decDigits]
    by_cases c : u < 10
    · rw [dif_pos c]
      refine ⟨?_, fun b hb => ?_⟩
      · show 0 * 10 + _ = _
        rw [dig_nat c]; omega
      · rw [List.mem_singleton] at hb
        rw [hb, dig_nat c]; omega
    · rw [dif_neg c]
      obtain ⟨i1, i2⟩ := ih (u / 10) (by omega)
      have hd := dig_nat (u := u % 10) (by omega)
      refine ⟨?_, fun b hb => ?_⟩
      · rw [dval_snoc, i1, hd]; omega
      · rw [List.mem_append, List.mem_singleton] at hb
        rcases hb with hb | hb
        · exact i2 b hb
        · rw [hb, hd]; omega
theorem itoa_N (n : Int) : ∀ b ∈ Lib.itoa n, isN b := by
  intro b hb
  unfold Lib.itoa at hb
  split at hb
  · rcases List.mem_cons.mp hb with q | q
    · rw [q]; left; decide
    · exact .inr ((dec_all _).2 b q)
  · exact .inr ((dec_all _).2 b hb)
theorem dec_inj {u v : Nat} (h : Lib.decDigits u = Lib.decDigits v) : u = v := by
  rw [← (dec_all u).1, ← (dec_all v).1, h]
theorem dec_minus (u : Nat) (r : List UInt8) : Lib.decDigits u ≠ 45 :: r := fun h => by
  have := (dec_all u).2 45 (by rw [h]; simp)
  have e : (45 : UInt8).toNat = 45 := rfl
  omega
theorem itoa_inj {m n : Int} (h : Lib.itoa m = Lib.itoa n) : m = n := by
  unfold Lib.itoa at h
  by_cases c : m < 0
  · rw [if_pos c] at h
    by_cases c2 : n < 0
    · rw [if_pos c2] at h
      have := dec_inj (List.cons.inj h).2
      omega
    · rw [if_neg c2] at h
      exact absurd h.symm (dec_minus _ _)
  · rw [if_neg c] at h
    by_cases c2 : n < 0
    · rw [if_pos c2] at h
      exact absurd h (dec_minus _ _)
    · rw [if_neg c2] at h
      have := dec_inj h
      omega
/-- Numbers, a comma between two. -/
def numsB : List Int → List UInt8
  | [] => []
  | [n] => Lib.itoa n
  | n :: m :: r => Lib.itoa n ++ 44 :: numsB (m :: r)
theorem numsB_snoc : ∀ (l : List Int) (n : Int), l ≠ [] → numsB (l ++ [n]) = numsB l ++ 44 :: Lib.itoa n
  | [], n, h => absurd rfl h
  | [a], n, _ => rfl
  | a :: b :: r, n, _ => by
    have ih := numsB_snoc (b :: r) n (by simp)
    show Lib.itoa a ++ 44 :: numsB (b :: r ++ [n]) = (Lib.itoa a ++ 44 :: numsB (b :: r)) ++ 44 :: Lib.itoa n
    rw [ih]
    simp
/-- What ends a list of numbers. -/
def isE (c : UInt8) : Prop := c = 58 ∨ c = 59
theorem isE.not {c : UInt8} (h : isE c) : ¬ isN c ∧ c ≠ 44 := by
  rcases h with rfl | rfl <;> (refine ⟨fun q => ?_, by decide⟩; unfold isN at q; revert q; decide)
theorem not44 : ¬ isN 44 := by unfold isN; decide
theorem nums_inj {c c' : UInt8} {r r' : List UInt8} (hc : isE c) (hc' : isE c') : ∀ {l l' : List Int}, l.length = l'.length → numsB l ++ c :: r = numsB l' ++ c' :: r' → l = l' ∧ c = c' ∧ r = r'
  | [], [], _, e => by
    simp only [numsB, List.nil_append, List.cons.injEq] at e
    exact ⟨rfl, e⟩
  | [], _ :: _, h, _ => by simp at h
  | _ :: _, [], h, _ => by simp at h
  | [n], [m], _, e => by
    obtain ⟨h1, h2, h3⟩ := cut_num hc.not.1 hc'.not.1 (itoa_N n) (itoa_N m) e
    exact ⟨by rw [itoa_inj h1], h2, h3⟩
  | [n], m :: m2 :: s, h, _ => by simp at h
  | n :: n2 :: s, [m], h, _ => by simp at h
  | n :: n2 :: s, m :: m2 :: s', h, e => by
    have e' : Lib.itoa n ++ 44 :: (numsB (n2 :: s) ++ c :: r) = Lib.itoa m ++ 44 :: (numsB (m2 :: s') ++ c' :: r') := by
      simpa [numsB] using e
    obtain ⟨h1, _, h3⟩ := cut_num not44 not44 (itoa_N n) (itoa_N m) e'
    obtain ⟨i1, i2, i3⟩ := nums_inj hc hc' (l := n2 :: s) (l' := m2 :: s') (by simpa using h) h3
    exact ⟨by rw [itoa_inj h1, i1], i2, i3⟩
/-- What an event touches, and its end. -/
def tchB (as : List (List Int)) : List UInt8 := as.flatMap (fun a => 58 :: numsB a) ++ [59]
theorem tchB_cons (a : List Int) (as : List (List Int)) : tchB (a :: as) = 58 :: (numsB a ++ tchB as) := by simp [tchB]
theorem tch_head (as : List (List Int)) : ∃ c s, tchB as = c :: s ∧ isE c := by
  cases as with
  | nil => exact ⟨59, [], rfl, .inr rfl⟩
  | cons a as => exact ⟨58, _, tchB_cons a as, .inl rfl⟩
theorem tch_inj {r r' : List UInt8} : ∀ {as bs : List (List Int)}, (∀ a ∈ as, a.length = 3) → (∀ a ∈ bs, a.length = 3) → tchB as ++ r = tchB bs ++ r' → as = bs ∧ r = r'
  | [], [], _, _, e => ⟨rfl, by simpa [tchB] using e⟩
  | [], b :: bs, _, _, e => by
    rw [tchB_cons] at e
    simp [tchB] at e
  | a :: as, [], _, _, e => by
    rw [tchB_cons] at e
    simp [tchB] at e
  | a :: as, b :: bs, h, h', e => by
    rw [tchB_cons, tchB_cons] at e
    simp only [List.cons_append, List.cons.injEq, true_and, List.append_assoc] at e
    obtain ⟨c, s, e1, hc⟩ := tch_head as
    obtain ⟨c', s', e2, hc'⟩ := tch_head bs
    have e3 := e
    rw [e1, e2, List.cons_append, List.cons_append] at e3
    obtain ⟨i1, i2, i3⟩ := nums_inj hc hc' (by rw [h a (by simp), h' b (by simp)]) e3
    have e4 : tchB as ++ r = tchB bs ++ r' := by rw [e1, e2, List.cons_append, List.cons_append, i2, i3]
    obtain ⟨j1, j2⟩ := tch_inj (fun a ha => h a (by simp [ha])) (fun a ha => h' a (by simp [ha])) e4
    exact ⟨by rw [i1, j1], j2⟩
/-- An event's text: seven numbers, and what it touches. -/
def lineB (x : List Int × List (List Int)) : List UInt8 := numsB x.1 ++ tchB x.2
def Good7 (x : List Int × List (List Int)) : Prop := x.1.length = 7 ∧ ∀ a ∈ x.2, a.length = 3
theorem line_inj {x y : List Int × List (List Int)} {r r' : List UInt8} (hx : Good7 x) (hy : Good7 y) (e : lineB x ++ r = lineB y ++ r') : x = y ∧ r = r' := by
  unfold lineB at e
  rw [List.append_assoc, List.append_assoc] at e
  obtain ⟨c, s, e1, hc⟩ := tch_head x.2
  obtain ⟨c', s', e2, hc'⟩ := tch_head y.2
  have e3 := e
  rw [e1, e2, List.cons_append, List.cons_append] at e3
  obtain ⟨i1, i2, i3⟩ := nums_inj hc hc' (by rw [hx.1, hy.1]) e3
  have e4 : tchB x.2 ++ r = tchB y.2 ++ r' := by rw [e1, e2, List.cons_append, List.cons_append, i2, i3]
  obtain ⟨j1, j2⟩ := tch_inj hx.2 hy.2 e4
  exact ⟨Prod.ext i1 j1, j2⟩
theorem line_ne (x : List Int × List (List Int)) : lineB x ≠ [] := by
  obtain ⟨c, s, e1, _⟩ := tch_head x.2
  unfold lineB
  rw [e1]
  simp
def linesB (l : List (List Int × List (List Int))) : List UInt8 := l.flatMap lineB
theorem lines_inj : ∀ {l m : List (List Int × List (List Int))}, (∀ x ∈ l, Good7 x) → (∀ x ∈ m, Good7 x) → linesB l = linesB m → l = m
  | [], [], _, _, _ => rfl
  | [], y :: m, _, _, e => by
    simp only [linesB, List.flatMap_nil, List.flatMap_cons] at e
    exact absurd (List.append_eq_nil_iff.mp e.symm).1 (line_ne y)
  | x :: l, [], _, _, e => by
    simp only [linesB, List.flatMap_nil, List.flatMap_cons] at e
    exact absurd (List.append_eq_nil_iff.mp e).1 (line_ne x)
  | x :: l, y :: m, h, h', e => by
    simp only [linesB, List.flatMap_cons] at e
    obtain ⟨i1, i2⟩ := line_inj (h x (by simp)) (h' y (by simp)) e
    rw [i1, lines_inj (fun z hz => h z (by simp [hz])) (fun z hz => h' z (by simp [hz])) i2]
end Go.Proofs.YtgmpdnmheiblpaaDoor.pg
