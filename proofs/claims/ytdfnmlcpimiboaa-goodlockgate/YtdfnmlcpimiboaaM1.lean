/- Programs as plain data, where they lie in memory, and what is wrong with them: the data, no word of the program that is proved. -/
import Derived.WalkKit
import Derived.ProofKit
import Derived.OpenShut
import Derived.Deep.Slices
import Derived.ChangeSame
import Derived.WalkSmall
import Derived.Lib.SmallJoins
import Derived.Test.YtdfnmlcpimiboaaProg
import Derived.WalkSpells
namespace Go.Proofs.Ytdfnmlcpimiboaa.pg
open Go.ChangeShapes Go.WideShapes Go.ChangeAt Go.RowKit
set_option linter.unusedVariables false
/-- An instruction. -/
structure Ins where
  op : Int
  a : Int
  b : Int
  c : Int
  n : Int
/-- A case of a select. -/
structure Cas where
  send : Bool
  ch : Int
  reg : Int
  to : Int
/-- A select, and where its cases lie. -/
structure MSel where
  at_ : Option Addr
  cap : Nat
  cases : List Cas
  els : Int
/-- A function, and where its lists lie. -/
structure MFn where
  params : Int
  regs : Int
  ca : Option Addr
  ccap : Nat
  code : List Ins
  sa : Option Addr
  scap : Nat
  sels : List MSel
/-- A shared variable. -/
structure Vr where
  atomic : Bool
  init : Int
/-- A program, and where its lists lie. -/
structure MPr where
  va : Option Addr
  vcap : Nat
  vars : List Vr
  locks : Int
  cha : Option Addr
  chcap : Nat
  chans : List Int
  fa : Option Addr
  fcap : Nat
  fns : List MFn
/-- The same without places. -/
structure Sel where
  cases : List Cas
  els : Int
structure Fn where
  params : Int
  regs : Int
  code : List Ins
  sels : List Sel
structure Pr where
  vars : List Vr
  locks : Int
  chans : List Int
  fns : List Fn
def MSel.sel (s : MSel) : Sel := ⟨s.cases, s.els⟩
def MFn.fn (f : MFn) : Fn := ⟨f.params, f.regs, f.code, f.sels.map MSel.sel⟩
def MPr.pr (p : MPr) : Pr := ⟨p.vars, p.locks, p.chans, p.fns.map MFn.fn⟩
/-- Cells. -/
def Ins.cells (x : Ins) : List Value := [.int .i64 x.op, .int .i64 x.a, .int .i64 x.b, .int .i64 x.c, .int .i64 x.n]
def Cas.cells (x : Cas) : List Value := [.bool x.send, .int .i64 x.ch, .int .i64 x.reg, .int .i64 x.to]
def MSel.cells (x : MSel) : List Value := [.slice x.at_ x.cases.length x.cap, .int .i64 x.els]
def MFn.cells (x : MFn) : List Value := [.int .i64 x.params, .int .i64 x.regs, .slice x.ca x.code.length x.ccap, .slice x.sa x.sels.length x.scap]
def Vr.cells (x : Vr) : List Value := [.bool x.atomic, .int .i64 x.init]
def chCells (x : Int) : List Value := [.int .i64 x]
abbrev MSel.val (x : MSel) : Value := .agg #[.slice x.at_ x.cases.length x.cap, .int .i64 x.els]
abbrev Cas.val (x : Cas) : Value := .agg #[.bool x.send, .int .i64 x.ch, .int .i64 x.reg, .int .i64 x.to]
abbrev Ins.val (x : Ins) : Value := .agg #[.int .i64 x.op, .int .i64 x.a, .int .i64 x.b, .int .i64 x.c, .int .i64 x.n]
abbrev MFn.val (x : MFn) : Value := .agg #[.int .i64 x.params, .int .i64 x.regs, .slice x.ca x.code.length x.ccap, .slice x.sa x.sels.length x.scap]
abbrev MPr.val (p : MPr) : Value := .agg #[.slice p.va p.vars.length p.vcap, .int .i64 p.locks, .slice p.cha p.chans.length p.chcap, .slice p.fa p.fns.length p.fcap]
/-- Numbers of 64 bits. -/
def I64 (z : Int) : Prop := -9223372036854775808 ≤ z ∧ z ≤ 9223372036854775807
def Ins.wf (x : Ins) : Prop := I64 x.op ∧ I64 x.a ∧ I64 x.b ∧ I64 x.c ∧ I64 x.n
def Cas.wf (x : Cas) : Prop := I64 x.ch ∧ I64 x.reg ∧ I64 x.to
/-- Rows of k cells each, in memory, one behind the other. -/
def Rows (w : World) (k : Nat) (a : Option Addr) (cap : Nat) (L : List (List Value)) : Prop :=
  L.length ≤ cap ∧ cap ≤ 9223372036854775807 ∧ (a = none → L = [] ∧ cap = 0) ∧
    (L = [] ∨ ∃ b off, a = some ⟨b, off, none⟩ ∧ b < w.heap.size ∧ ∀ i row, L[i]? = some row → row.length = k ∧ ∀ j u, row[j]? = some u → w.cell? ⟨b, off + (i * k + j), none⟩ = some u)
theorem Rows.later {w w' : World} {k : Nat} {a : Option Addr} {cap : Nat} {L : List (List Value)} (h : Rows w k a cap L) (hb : Below w.heap.size w w') : Rows w' k a cap L := by
  obtain ⟨h1, h2, h3, h4⟩ := h
  refine ⟨h1, h2, h3, h4.imp_right fun ⟨b, off, ha, hlt, hc⟩ => ⟨b, off, ha, Nat.lt_of_lt_of_le hlt hb.size, fun i row hi => ⟨(hc i row hi).1, fun j u hj => ?_⟩⟩⟩
  rw [hb.cell (p := ⟨b, off + (i * k + j), none⟩) hlt]
  exact (hc i row hi).2 j u hj
def MSel.lies (w : World) (s : MSel) : Prop := Rows w 4 s.at_ s.cap (s.cases.map Cas.cells) ∧ (∀ x ∈ s.cases, x.wf) ∧ I64 s.els
def MFn.lies (w : World) (f : MFn) : Prop := Rows w 5 f.ca f.ccap (f.code.map Ins.cells) ∧ Rows w 2 f.sa f.scap (f.sels.map MSel.cells) ∧ (∀ x ∈ f.code, x.wf) ∧ (∀ s ∈ f.sels, s.lies w) ∧ I64 f.params ∧ I64 f.regs
def MPr.lies (w : World) (p : MPr) : Prop := Rows w 2 p.va p.vcap (p.vars.map Vr.cells) ∧ Rows w 1 p.cha p.chcap (p.chans.map chCells) ∧ Rows w 4 p.fa p.fcap (p.fns.map MFn.cells) ∧
  (∀ x ∈ p.vars, I64 x.init) ∧ I64 p.locks ∧ (∀ x ∈ p.chans, I64 x) ∧ ∀ f ∈ p.fns, f.lies w
theorem MSel.lies.later {w w' : World} {s : MSel} (h : s.lies w) (hb : Below w.heap.size w w') : s.lies w' := ⟨h.1.later hb, h.2⟩
theorem MFn.lies.later {w w' : World} {f : MFn} (h : f.lies w) (hb : Below w.heap.size w w') : f.lies w' := ⟨h.1.later hb, h.2.1.later hb, h.2.2.1, fun s hs => (h.2.2.2.1 s hs).later hb, h.2.2.2.2⟩
theorem MPr.lies.later {w w' : World} {p : MPr} (h : p.lies w) (hb : Below w.heap.size w w') : p.lies w' := ⟨h.1.later hb, h.2.1.later hb, h.2.2.1.later hb, h.2.2.2.1, h.2.2.2.2.1, h.2.2.2.2.2.1, fun f hf => (h.2.2.2.2.2.2 f hf).later hb⟩
/-- Cells of a row, one by one. -/
theorem Rows.row {w : World} {k : Nat} {a : Option Addr} {cap : Nat} {L : List (List Value)} (h : Rows w k a cap L) {i : Nat} {row : List Value} (hi : L[i]? = some row) :
    ∃ b off, a = some ⟨b, off, none⟩ ∧ b < w.heap.size ∧ ∀ j u, row[j]? = some u → w.cell? ⟨b, off + (i * k + j), none⟩ = some u := by
  rcases h.2.2.2 with h0 | ⟨b, off, ha, hlt, hc⟩
  · subst h0; simp at hi
  · exact ⟨b, off, ha, hlt, (hc i row hi).2⟩
theorem ins_at {w : World} {a : Option Addr} {cap : Nat} {l : List Ins} (h : Rows w 5 a cap (l.map Ins.cells)) (i : Nat) (x : Ins) (hi : l[i]? = some x) :
    ∃ b off, a = some ⟨b, off, none⟩ ∧ b < w.heap.size ∧ w.cell? ⟨b, off + i * 5, none⟩ = some (.int .i64 x.op) ∧ w.cell? ⟨b, off + (i * 5 + 1), none⟩ = some (.int .i64 x.a) ∧ w.cell? ⟨b, off + (i * 5 + 2), none⟩ = some (.int .i64 x.b) ∧
      w.cell? ⟨b, off + (i * 5 + 3), none⟩ = some (.int .i64 x.c) ∧ w.cell? ⟨b, off + (i * 5 + 4), none⟩ = some (.int .i64 x.n) := by
  obtain ⟨b, off, ha, hlt, hc⟩ := h.row (i := i) (row := x.cells) (by simp [hi])
  exact ⟨b, off, ha, hlt, hc 0 _ rfl, hc 1 _ rfl, hc 2 _ rfl, hc 3 _ rfl, hc 4 _ rfl⟩
theorem cas_at {w : World} {a : Option Addr} {cap : Nat} {l : List Cas} (h : Rows w 4 a cap (l.map Cas.cells)) (i : Nat) (x : Cas) (hi : l[i]? = some x) :
    ∃ b off, a = some ⟨b, off, none⟩ ∧ b < w.heap.size ∧ w.cell? ⟨b, off + i * 4, none⟩ = some (.bool x.send) ∧ w.cell? ⟨b, off + (i * 4 + 1), none⟩ = some (.int .i64 x.ch) ∧ w.cell? ⟨b, off + (i * 4 + 2), none⟩ = some (.int .i64 x.reg) ∧
      w.cell? ⟨b, off + (i * 4 + 3), none⟩ = some (.int .i64 x.to) := by
  obtain ⟨b, off, ha, hlt, hc⟩ := h.row (i := i) (row := x.cells) (by simp [hi])
  exact ⟨b, off, ha, hlt, hc 0 _ rfl, hc 1 _ rfl, hc 2 _ rfl, hc 3 _ rfl⟩
theorem sel_at {w : World} {a : Option Addr} {cap : Nat} {l : List MSel} (h : Rows w 2 a cap (l.map MSel.cells)) (i : Nat) (x : MSel) (hi : l[i]? = some x) :
    ∃ b off, a = some ⟨b, off, none⟩ ∧ b < w.heap.size ∧ w.cell? ⟨b, off + i * 2, none⟩ = some (.slice x.at_ x.cases.length x.cap) ∧ w.cell? ⟨b, off + (i * 2 + 1), none⟩ = some (.int .i64 x.els) := by
  obtain ⟨b, off, ha, hlt, hc⟩ := h.row (i := i) (row := x.cells) (by simp [hi])
  exact ⟨b, off, ha, hlt, hc 0 _ rfl, hc 1 _ rfl⟩
theorem vr_at {w : World} {a : Option Addr} {cap : Nat} {l : List Vr} (h : Rows w 2 a cap (l.map Vr.cells)) (i : Nat) (x : Vr) (hi : l[i]? = some x) :
    ∃ b off, a = some ⟨b, off, none⟩ ∧ b < w.heap.size ∧ w.cell? ⟨b, off + i * 2, none⟩ = some (.bool x.atomic) ∧ w.cell? ⟨b, off + (i * 2 + 1), none⟩ = some (.int .i64 x.init) := by
  obtain ⟨b, off, ha, hlt, hc⟩ := h.row (i := i) (row := x.cells) (by simp [hi])
  exact ⟨b, off, ha, hlt, hc 0 _ rfl, hc 1 _ rfl⟩
theorem ch_at {w : World} {a : Option Addr} {cap : Nat} {l : List Int} (h : Rows w 1 a cap (l.map chCells)) (i : Nat) (x : Int) (hi : l[i]? = some x) :
    ∃ b off, a = some ⟨b, off, none⟩ ∧ b < w.heap.size ∧ w.cell? ⟨b, off + i, none⟩ = some (.int .i64 x) := by
  obtain ⟨b, off, ha, hlt, hc⟩ := h.row (i := i) (row := chCells x) (by simp [hi])
  exact ⟨b, off, ha, hlt, by have := hc 0 _ rfl; simpa using this⟩
theorem fn_at {w : World} {a : Option Addr} {cap : Nat} {l : List MFn} (h : Rows w 4 a cap (l.map MFn.cells)) (i : Nat) (x : MFn) (hi : l[i]? = some x) :
    ∃ b off, a = some ⟨b, off, none⟩ ∧ b < w.heap.size ∧ w.cell? ⟨b, off + i * 4, none⟩ = some (.int .i64 x.params) ∧ w.cell? ⟨b, off + (i * 4 + 1), none⟩ = some (.int .i64 x.regs) ∧
      w.cell? ⟨b, off + (i * 4 + 2), none⟩ = some (.slice x.ca x.code.length x.ccap) ∧ w.cell? ⟨b, off + (i * 4 + 3), none⟩ = some (.slice x.sa x.sels.length x.scap) := by
  obtain ⟨b, off, ha, hlt, hc⟩ := h.row (i := i) (row := x.cells) (by simp [hi])
  exact ⟨b, off, ha, hlt, hc 0 _ rfl, hc 1 _ rfl, hc 2 _ rfl, hc 3 _ rfl⟩
/-- An element that is there. -/
theorem get_lt {α : Type} (l : List α) (i : Nat) (h : i < l.length) : ∃ x, l[i]? = some x ∧ x ∈ l := ⟨l[i], List.getElem?_eq_getElem h, List.getElem_mem h⟩
end Go.Proofs.Ytdfnmlcpimiboaa.pg
/- A program that came in, opened: where its lists lie, and what lies there. -/
namespace Go.Proofs.Ytdfnmlcpimiboaa.pg
open Go.ChangeShapes Go.WideShapes Go.ChangeAt Go.RowKit
set_option linter.unusedVariables false
section
variable {H : Type} {enc : TypeId × Value → H} {P : Program} {w : World} {base : Nat} {spare : Nat → Bool} {held : Bool}
theorem add_none (b off j : Nat) : (⟨b, off, none⟩ : Addr).add j = ⟨b, off + j, none⟩ := by
  by_cases hj : j = 0
  · subst hj; rfl
  · simp [Addr.add, hj]
/-- A list, opened: its elements' cells are as the elements' own readings tell. -/
theorem rows_in {α : Type} (dflt : α) {t e : TypeId} {k fuel : Nat} {a : Option Addr} {len cap : Nat} {x : DataW H × List MemPlace} (C : α → List Value) (Q : α → Prop) (ht : P.underlying t = some (.slice e)) (hk : P.cellsOf e = k) (hk0 : 0 < k)
    (hel : ∀ n cs y, cs.length = k → DataW.trod enc P w base spare held n e cs = some y → ∃ x, cs = C x ∧ Q x)
    (h : DataW.trod enc P w base spare held fuel t [.slice a len cap] = some x) : ∃ l : List α, l.length = len ∧ Rows w k a cap (l.map C) ∧ ∀ x ∈ l, Q x := by
  rcases Go.Deep.open_slice ht h with ⟨hcs, _⟩ | ⟨ad, len', cap', m, n, D, Pl, hcs, _, hl, hm, hmm, _, hx⟩
  · simp only [List.cons.injEq, Value.slice.injEq, and_true] at hcs
    obtain ⟨rfl, rfl, rfl⟩ := hcs
    exact ⟨[], rfl, ⟨by simp, by simp, by simp, .inl rfl⟩, by simp⟩
  · simp only [List.cons.injEq, Value.slice.injEq, and_true] at hcs
    obtain ⟨rfl, rfl, rfl⟩ := hcs
    unfold maxLen at hm
    have hlm : len ≤ m := by rw [hmm]; split <;> omega
    have each : ∀ i, i < len → ∃ y : α, Q y ∧ (C y).length = k ∧ ∀ j u, (C y)[j]? = some u → w.cell? (ad.add (i * k + j)) = some u := fun i hi => by
      obtain ⟨cs', h1, h2⟩ := hx i (by omega)
      rw [hk] at h1
      obtain ⟨_, hlen, hcell⟩ := World.cells?_some h1
      obtain ⟨y, rfl, hQ⟩ := hel n cs' _ hlen h2
      refine ⟨y, hQ, hlen, fun j u hj => ?_⟩
      have hjk : j < k := by have := (List.getElem?_eq_some_iff.mp hj).1; omega
      have := hcell j hjk
      rw [Go.Deep.add_add] at this
      rw [this, hj]
    have inh : Inhabited α := ⟨dflt⟩
    obtain ⟨f, hf⟩ := Go.Deep.choose_lt each
    refine ⟨(List.range len).map f, by simp, ⟨by simpa using hl, by omega, by simp, ?_⟩, fun y hy => ?_⟩
    · by_cases h0 : len = 0
      · subst h0; exact .inl rfl
      right
      obtain ⟨b, off, spot⟩ := ad
      obtain ⟨_, hl0, hc0⟩ := hf 0 (by omega)
      have hcell0 : w.cell? ((⟨b, off, spot⟩ : Addr).add (0 * k + 0)) = some ((C (f 0))[0]'(by omega)) := hc0 0 _ (List.getElem?_eq_getElem (by omega))
      have hs : spot = none := by simpa [Addr.add] using World.cell?_spot hcell0
      subst hs
      rw [add_none] at hcell0
      refine ⟨b, off, rfl, World.block_lt_of_cell? _ _ hcell0, fun i row hi => ?_⟩
      simp only [List.map_map, List.getElem?_map, Option.map_eq_some_iff] at hi
      obtain ⟨i', hi', rfl⟩ := hi
      have hil : i < len ∧ i' = i := by
        have h1 := (List.getElem?_eq_some_iff.mp hi').1
        have h2 := (List.getElem?_eq_some_iff.mp hi').2
        simp at h1 h2
        exact ⟨h1, h2.symm⟩
      obtain ⟨hil, rfl⟩ := hil
      obtain ⟨_, h1, h2⟩ := hf i' hil
      exact ⟨h1, fun j u hj => by rw [← add_none]; exact h2 j u hj⟩
    · simp only [List.mem_map, List.mem_range] at hy
      obtain ⟨i, hi, rfl⟩ := hy
      exact (hf i hi).1
theorem int_in {t : TypeId} (ht : P.underlying t = some (.int .i64)) {n : Nat} {v : Value} {y : DataW H × List MemPlace} (h : DataW.trod enc P w base spare held n t [v] = some y) : ∃ z, v = .int .i64 z ∧ I64 z := by
  obtain ⟨z, e, _, b⟩ := DataW.trod_int ht h
  simp only [List.cons.injEq, and_true] at e
  refine ⟨z, e, ?_⟩
  show _ ∧ _
  simpa [Lit.wf, IntKind.min, IntKind.max, IntKind.bits, IntKind.signed] using b
theorem bool_in {t : TypeId} (ht : P.underlying t = some .bool) {n : Nat} {v : Value} {y : DataW H × List MemPlace} (h : DataW.trod enc P w base spare held n t [v] = some y) : ∃ z, v = .bool z := by
  obtain ⟨z, e, _⟩ := DataW.trod_bool ht h
  simp only [List.cons.injEq, and_true] at e
  exact ⟨z, e⟩
theorem slice_in {t e : TypeId} (ht : P.underlying t = some (.slice e)) {n : Nat} {v : Value} {y : DataW H × List MemPlace} (h : DataW.trod enc P w base spare held n t [v] = some y) : ∃ a len cap, v = .slice a len cap := by
  rcases Go.Deep.open_slice ht h with ⟨hcs, _⟩ | ⟨ad, len', cap', m, n, D, Pl, hcs, _⟩
  · exact ⟨_, _, _, by simpa using hcs⟩
  · exact ⟨_, _, _, by simpa using hcs⟩
/-- A field of one cell. -/
theorem field_in {t : TypeId} {fs : Array Field} {fuel : Nat} {cs : List Value} {x : DataW H × List MemPlace} (ht : P.underlying t = some (.struct fs)) (h : DataW.trod enc P w base spare held fuel t cs = some x)
    (i : Nat) (f : Field) (hi : fs[i]? = some f) (ho : f.offset = i) (hc : P.cellsOf f.type = 1) (hl : i < cs.length) : ∃ v y n, cs[i]? = some v ∧ DataW.trod enc P w base spare held n f.type [v] = some y := by
  obtain ⟨xs, n, _, _, _, hlen, hf⟩ := DataW.trod_struct ht h
  have h1 := hf i f hi
  have hlt : i < xs.length := by rw [hlen]; exact (Array.getElem?_eq_some_iff.mp hi).1
  rw [ho, hc, List.getElem?_eq_getElem hlt] at h1
  refine ⟨cs[i], xs[i], n, List.getElem?_eq_getElem hl, ?_⟩
  rw [← h1]
  congr 1
  rw [List.drop_eq_getElem_cons hl]
  rfl
end
section
variable {H : Type} {enc : TypeId × Value → H} {w : World} {base : Nat} {spare : Nat → Bool} {held : Bool}
theorem list1 {α : Type} {cs : List α} (h : cs.length = 1) {a : α} (h0 : cs[0]? = some a) : cs = [a] := by
  match cs, h with
  | [_], _ => simp_all
theorem list2 {α : Type} {cs : List α} (h : cs.length = 2) {a b : α} (h0 : cs[0]? = some a) (h1 : cs[1]? = some b) : cs = [a, b] := by
  match cs, h with
  | [_, _], _ => simp_all
theorem list4 {α : Type} {cs : List α} (h : cs.length = 4) {a b c d : α} (h0 : cs[0]? = some a) (h1 : cs[1]? = some b) (h2 : cs[2]? = some c) (h3 : cs[3]? = some d) : cs = [a, b, c, d] := by
  match cs, h with
  | [_, _, _, _], _ => simp_all
theorem list5 {α : Type} {cs : List α} (h : cs.length = 5) {a b c d e : α} (h0 : cs[0]? = some a) (h1 : cs[1]? = some b) (h2 : cs[2]? = some c) (h3 : cs[3]? = some d) (h4 : cs[4]? = some e) : cs = [a, b, c, d, e] := by
  match cs, h with
  | [_, _, _, _, _], _ => simp_all
end
end Go.Proofs.Ytdfnmlcpimiboaa.pg
/- Elements of a program's lists: what an index gives, and the cells there. -/
namespace Go.Proofs.Ytdfnmlcpimiboaa.pg
open Go.ChangeShapes Go.WideShapes Go.ChangeAt Go.RowKit
set_option linter.unusedVariables false
theorem Rows.ix {w : World} {k : Nat} {a : Option Addr} {cap : Nat} {L : List (List Value)} (h : Rows w k a cap L) (t e : TypeId) (hu : Try.prog.underlying t = some (.slice e)) (he : Try.prog.elem t = e) (hs : ∀ wx, (sizeOf e).run Try.prog wx = .ok k wx)
    (i : Nat) {row : List Value} (hi : L[i]? = some row) :
    ∃ b o, (∀ wx, (Instr.indexAt t (.slice a L.length cap) (.int .i64 (i : Int))).run Try.prog wx = .ok (.pointer (some ⟨b, o, none⟩)) wx) ∧ b < w.heap.size ∧ ∀ j u, row[j]? = some u → w.cell? ⟨b, o + j, none⟩ = some u := by
  obtain ⟨b, off, ha, hlt, hc⟩ := h.row hi
  have hil : i < L.length := (List.getElem?_eq_some_iff.mp hi).1
  refine ⟨b, off + i * k, fun wx => ?_, hlt, fun j u hj => by rw [Nat.add_assoc]; exact hc j u hj⟩
  subst he
  rw [ha, run_indexAt_slice wx t ⟨b, off, none⟩ _ _ _ _ hu, if_pos (by omega), hs wx]
  simp only [Int.toNat_natCast]
  show Result.ok (Value.pointer (some ((⟨b, off, none⟩ : Addr).add (i * k)))) wx = _
  rw [add_none]
theorem ch_ix {w : World} {a : Option Addr} {cap : Nat} {l : List Int} (h : Rows w 1 a cap (l.map chCells)) (i : Nat) (x : Int) (hi : l[i]? = some x) :
    ∃ b o, (∀ wx, (Instr.indexAt 29 (.slice a l.length cap) (.int .i64 (i : Int))).run Try.prog wx = .ok (.pointer (some ⟨b, o, none⟩)) wx) ∧ b < w.heap.size ∧ w.cell? ⟨b, o, none⟩ = some (.int .i64 x) := by
  obtain ⟨b, o, hr, hlt, hc⟩ := h.ix 29 3 Try.underlying29 (by kernel_rfl) (fun wx => Try.sizeOf3 wx) i (row := chCells x) (by simp [hi])
  rw [List.length_map] at hr
  exact ⟨b, o, hr, hlt, hc 0 _ rfl⟩
end Go.Proofs.Ytdfnmlcpimiboaa.pg
