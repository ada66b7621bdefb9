/- A goroutine in a box. -/
import Derived.Test.YtofeohhnfnnifaaDoorM7
import Derived.Test.YtofeohhnfnnifaaDoorM11
import Derived.Laws.Tables
import Derived.Test.YtofeohhnfnnifaaDoorM1
import Derived.SizedLaws
namespace Go.Proofs.YtofeohhnfnnifaaDoor.pg
open Go.ChangeShapes Go.WideShapes Go.ChangeAt Go.RowKit
set_option linter.unusedVariables false
set_option linter.unusedSimpArgs false
set_option maxRecDepth 100000
abbrev Gr.val (g : Gr) : Value := .agg g.cells.toArray
abbrev objG (g : Gr) : Obj := .cells g.cells.toArray 35
def InG (w : World) (B : Nat) (g : Gr) : Prop := w.heap[B]? = some (objG g)
theorem InG.lt {w : World} {B : Nat} {x : Gr} (h : InG w B x) : B < w.heap.size := (Array.getElem?_eq_some_iff.mp h).1
theorem InG.later {w w' : World} {B : Nat} {x : Gr} (h : InG w B x) (hb : Below w.heap.size w w') : InG w' B x := (hb.block B h.lt).trans h
theorem inG_new (w : World) (x : Gr) : InG (w.alloc (objG x)) w.heap.size x := heap_alloc_new w _
theorem InG.set {w : World} {B : Nat} {x : Gr} (h : InG w B x) (y : Gr) : InG (w.setRow B y.cells.toArray) B y := setRow_heap w B _ _ _ _ h
theorem InG.other {w : World} {B B' : Nat} {x : Gr} (h : InG w B x) (cs : Array Value) (hne : B ≠ B') : InG (w.setRow B' cs) B x := (setRow_other w B' B cs hne).trans h
theorem cell_ofG {w : World} {B k : Nat} {cs : Array Value} {t : TypeId} {v : Value} (h : w.heap[B]? = some (.cells cs t (0, 0))) (hk : cs[k]? = some v) : w.cell? ⟨B, k, none⟩ = some v := by
  simp [World.cell?, h, hk]
theorem InG.c0 {w : World} {B : Nat} {g : Gr} (h : InG w B g) : w.cell? ⟨B, 0, none⟩ = some (.int .i64 g.st) := cell_ofG h rfl
theorem InG.c1 {w : World} {B : Nat} {g : Gr} (h : InG w B g) : w.cell? ⟨B, 1, none⟩ = some (.int .i64 g.fn) := cell_ofG h rfl
theorem InG.c2 {w : World} {B : Nat} {g : Gr} (h : InG w B g) : w.cell? ⟨B, 2, none⟩ = some (.int .i64 g.pc) := cell_ofG h rfl
theorem InG.c3 {w : World} {B : Nat} {g : Gr} (h : InG w B g) : w.cell? ⟨B, 3, none⟩ = some (.int .i64 g.why) := cell_ofG h rfl
theorem InG.reg {w : World} {B : Nat} {g : Gr} (h : InG w B g) (hl : g.rg.length = 8) (a : Int) (h0 : 0 ≤ a) (h1 : a < 8) : w.cell? ⟨B, 4 + a.toNat, none⟩ = some (.int .i64 (g.get a)) := by
  refine cell_ofG h ?_
  have hk : a.toNat < g.rg.length := by omega
  rw [List.getElem?_toArray, Gr.cells, List.getElem?_append_right (by simp), List.getElem?_map]
  show Option.map _ (g.rg[4 + a.toNat - 4]?) = _
  rw [Nat.add_sub_cancel_left, Gr.get, List.getD_eq_getElem?_getD, List.getElem?_eq_getElem hk]
  rfl
theorem InG.fz {w : World} {B : Nat} {g : Gr} (h : InG w B g) (k : Nat) : w.frozen? ⟨B, k, none⟩ = false := frozen_of_row w B k _ _ h
theorem InG.setR {w : World} {B : Nat} {g : Gr} (h : InG w B g) (a x : Int) : InG (w.setCell ⟨B, 4 + a.toNat, none⟩ (.int .i64 x)) B (g.set a x) := by
  rw [setCell_eq_setRow w B (4 + a.toNat) _ _ _ _ h]
  have e : (g.cells.toArray).setIfInBounds (4 + a.toNat) (.int .i64 x) = (g.set a x).cells.toArray := by
    rw [List.setIfInBounds_toArray, Gr.cells, Gr.cells, List.set_append_right _ _ (by simp), List.length_cons, List.length_cons, List.length_cons, List.length_cons, List.length_nil, Nat.add_sub_cancel_left]
    simp only [Gr.set, ints, List.map_set]
  rw [e]
  exact h.set _
theorem InG.setP {w : World} {B : Nat} {g : Gr} (h : InG w B g) (x : Int) : InG (w.setCell ⟨B, 2, none⟩ (.int .i64 x)) B { g with pc := x } := by
  rw [setCell_eq_setRow w B 2 _ _ _ _ h]
  exact h.set { g with pc := x }
theorem InG.setS {w : World} {B : Nat} {g : Gr} (h : InG w B g) (x : Int) : InG (w.setCell ⟨B, 0, none⟩ (.int .i64 x)) B { g with st := x } := by
  rw [setCell_eq_setRow w B 0 _ _ _ _ h]
  exact h.set { g with st := x }
theorem infoG12 : (Tryd.prog.info? 35).map (·.size) = some 12 := by kernel_rfl
theorem infoG {g : Gr} (h : g.rg.length = 8) : (Tryd.prog.info? 35).map (·.size) = some g.cells.toArray.size := by
  rw [infoG12, List.size_toArray]
  simp [Gr.cells, h]
theorem oneG (g : Gr) : g.cells.toArray.all (·.oneCell') = true := by
  rw [List.all_toArray, List.all_eq_true]
  intro u hu
  simp only [Gr.cells, List.cons_append, List.nil_append, List.mem_cons, List.mem_map] at hu
  rcases hu with rfl | rfl | rfl | rfl | ⟨x, _, rfl⟩ <;> rfl
theorem sizeG {g : Gr} (h : g.rg.length = 8) : g.cells.toArray.size = 12 := by simp [Gr.cells, h]
theorem sizeGG {x y : Gr} (hx : x.rg.length = 8) (hy : y.rg.length = 8) : x.cells.toArray.size = y.cells.toArray.size := by rw [sizeG hx, sizeG hy]
theorem ix8 (B : Nat) (a : Int) (h0 : 0 ≤ a) (h1 : a < 8) : ∀ wx, (Instr.indexAt 28 (.pointer (some ⟨B, 4, none⟩)) (.int .i64 a)).run Tryd.prog wx = .ok (.pointer (some ⟨B, 4 + a.toNat, none⟩)) wx := by
  intro wx
  rw [run_indexAt_array _ _ _ _ _ (show Tryd.prog.underlying 28 = some (.array (Tryd.prog.arrayLen 28) (Tryd.prog.elem 28)) by kernel_rfl)]
  rw [show Tryd.prog.arrayLen 28 = 8 by kernel_rfl, show Tryd.prog.elem 28 = 2 by kernel_rfl, if_pos (by omega), Tryd.sizeOf2 wx]
  show Result.ok (Value.pointer (some ((⟨B, 4, none⟩ : Addr).add (a.toNat * 1)))) wx = _
  rw [add_none, Nat.mul_one]
/-- What is returned: a goroutine in its cell. -/
theorem results_g {fn : Func} {p : Tmp} (h : fn.results = #[.cell p 35]) (tmps : Array Value) (w : World) (B : Nat) (x : Gr) (hx : x.rg.length = 8) (hp : tmps.getD p undef = .pointer (some ⟨B, 0, none⟩)) (hB : InG w B x) :
    (results fn tmps).run Tryd.prog w = .ok x.val w := by
  have hp' : tmps[p]?.getD undef = .pointer (some ⟨B, 0, none⟩) := by simpa using hp
  simp [results, h, hp', asAddr, run_loadVar_row w B _ 35 _ _ _ hB Tryd.underlying35 rfl (infoG hx)]
theorem below_setCellG {n B : Nat} {a w : World} {g : Gr} (h : Below n a w) (hB : n ≤ B) (k : Nat) (v : Value) : Below n a (w.setCell ⟨B, k, none⟩ v) := h.setCell (p := ⟨B, k, none⟩) hB v
theorem below_setRowG {n B : Nat} {a w : World} (h : Below n a w) (hB : n ≤ B) (cs : Array Value) : Below n a (w.setRow B cs) :=
  ⟨h.os, h.tape, h.output, by rw [setRow_size]; exact h.size, fun k hk => (setRow_other w B k cs (by omega)).trans (h.block k hk)⟩
theorem zeroG_obj : objG zeroG = .cells #[.int .i64 0, .int .i64 0, .int .i64 0, .int .i64 0, .int .i64 0, .int .i64 0, .int .i64 0, .int .i64 0, .int .i64 0, .int .i64 0, .int .i64 0, .int .i64 0] 35 := rfl
end Go.Proofs.YtofeohhnfnnifaaDoor.pg
/- A program that came in, opened, with its sizes: none of its lists takes more bytes than a machine has. -/
namespace Go.Proofs.YtofeohhnfnnifaaDoor.pg
open Go.ChangeShapes Go.WideShapes Go.ChangeAt Go.RowKit
set_option linter.unusedVariables false
set_option maxRecDepth 100000
def MSel.sz (s : MSel) : Prop := s.cases.length * 32 ≤ reachBytes
def MFn.sz (f : MFn) : Prop := f.code.length * 40 ≤ reachBytes ∧ f.sels.length * 32 ≤ reachBytes ∧ ∀ s ∈ f.sels, s.sz
def MPr.sz (p : MPr) : Prop := p.vars.length * 16 ≤ reachBytes ∧ p.chans.length * 8 ≤ reachBytes ∧ p.fns.length * 64 ≤ reachBytes ∧ ∀ f ∈ p.fns, f.sz
section
variable {H : Type} {enc : TypeId × Value → H} {P : Program} {w : World} {base : Nat} {spare : Nat → Bool} {held : Bool}
def Sz (P : Program) (t : TypeId) (d : DataW H) : Prop := ∀ n ∈ d.weights P t, n ≤ reachBytes
theorem mem_weightsAll {e : TypeId} {l : List (DataW H)} {d : DataW H} (hd : d ∈ l) (n : Nat) (hn : n ∈ d.weights P e) : n ∈ DataW.weightsAll P e l := by
  induction l with
  | nil => simp at hd
  | cons x t ih =>
    simp only [DataW.weightsAll, List.mem_append]
    rcases List.mem_cons.mp hd with rfl | hd
    · exact .inl hn
    · exact .inr (ih hd)
/-- A list, opened: its elements' cells are as the elements' own readings tell. -/
theorem rows_sz {α : Type} (dflt : α) {t e : TypeId} {k fuel : Nat} {a : Option Addr} {len cap : Nat} {x : DataW H × List MemPlace} (C : α → List Value) (Q : α → Prop) (ht : P.underlying t = some (.slice e)) (hk : P.cellsOf e = k) (hk0 : 0 < k)
    (hel : ∀ n cs y, cs.length = k → DataW.trod enc P w base spare held n e cs = some y → Sz P e y.1 → ∃ x, cs = C x ∧ Q x)
    (h : DataW.trod enc P w base spare held fuel t [.slice a len cap] = some x) (hs : Sz P t x.1) : ∃ l : List α, l.length = len ∧ Rows w k a cap (l.map C) ∧ (∀ x ∈ l, Q x) ∧ len * P.bytesOf e ≤ reachBytes := by
  rcases Go.Deep.open_slice ht h with ⟨hcs, _⟩ | ⟨ad, len', cap', m, n, D, Pl, hcs, _, hl, hm, hmm, hxd, hx⟩
  · simp only [List.cons.injEq, Value.slice.injEq, and_true] at hcs
    obtain ⟨rfl, rfl, rfl⟩ := hcs
    exact ⟨[], rfl, ⟨by simp, by simp, by simp, .inl rfl⟩, by simp, by simp⟩
  · simp only [List.cons.injEq, Value.slice.injEq, and_true] at hcs
    obtain ⟨rfl, rfl, rfl⟩ := hcs
    unfold maxLen at hm
    have hlm : len ≤ m := by rw [hmm]; split <;> omega
    subst hxd
    have hs1 : (((List.range len).map D).length + ((List.range (m - len)).map fun j => D (len + j)).length) * P.bytesOf e ≤ reachBytes := hs _ (by
      simp only [DataW.weights, ht]; exact List.mem_cons_self)
    have hs2 : ∀ i, i < len → Sz P e (D i) := fun i hi n hn => hs n (by
      simp only [DataW.weights, ht]
      refine List.mem_cons_of_mem _ (List.mem_append_left _ (mem_weightsAll (d := D i) ?_ n hn))
      simp only [List.mem_map, List.mem_range]
      exact ⟨i, hi, rfl⟩)
    have each : ∀ i, i < len → ∃ y : α, Q y ∧ (C y).length = k ∧ ∀ j u, (C y)[j]? = some u → w.cell? (ad.add (i * k + j)) = some u := fun i hi => by
      obtain ⟨cs', h1, h2⟩ := hx i (by omega)
      rw [hk] at h1
      obtain ⟨_, hlen, hcell⟩ := World.cells?_some h1
      obtain ⟨y, rfl, hQ⟩ := hel n cs' _ hlen h2 (hs2 i hi)
      refine ⟨y, hQ, hlen, fun j u hj => ?_⟩
      have hjk : j < k := by have := (List.getElem?_eq_some_iff.mp hj).1; omega
      have := hcell j hjk
      rw [Go.Deep.add_add] at this
      rw [this, hj]
    have inh : Inhabited α := ⟨dflt⟩
    obtain ⟨f, hf⟩ := Go.Deep.choose_lt each
    refine ⟨(List.range len).map f, by simp, ⟨by simpa using hl, by omega, by simp, ?_⟩, fun y hy => ?_, ?_⟩
    · by_cases h0 : len = 0
      · subst h0; exact .inl rfl
      right
      obtain ⟨b, off, spot⟩ := ad
      obtain ⟨_, hl0, hc0⟩ := hf 0 (by omega)
      have hcell0 : w.cell? ((⟨b, off, spot⟩ : Addr).add (0 * k + 0)) = some ((C (f 0))[0]'(by omega)) := hc0 0 _ (List.getElem?_eq_getElem (by omega))
      have hs : spot = none := by simpa [Addr.add] using World.cell?_spot hcell0
      subst hs
      rw [add_none] at hcell0
      refine ⟨b, off, rfl, World.block_lt_of_cell? _ _ hcell0, fun i row hi => ?_⟩
      simp only [List.map_map, List.getElem?_map, Option.map_eq_some_iff] at hi
      obtain ⟨i', hi', rfl⟩ := hi
      have hil : i < len ∧ i' = i := by
        have h1 := (List.getElem?_eq_some_iff.mp hi').1
        have h2 := (List.getElem?_eq_some_iff.mp hi').2
        simp at h1 h2
        exact ⟨h1, h2.symm⟩
      obtain ⟨hil, rfl⟩ := hil
      obtain ⟨_, h1, h2⟩ := hf i' hil
      exact ⟨h1, fun j u hj => by rw [← add_none]; exact h2 j u hj⟩
    · simp only [List.mem_map, List.mem_range] at hy
      obtain ⟨i, hi, rfl⟩ := hy
      exact (hf i hi).1
    · have := hs1
      simp only [List.length_map, List.length_range] at this
      exact Nat.le_trans (Nat.mul_le_mul_right _ (Nat.le_add_right _ _)) this
/-- A field of one cell. -/
theorem field_sz {t : TypeId} {fs : Array Field} {fuel : Nat} {cs : List Value} {x : DataW H × List MemPlace} (ht : P.underlying t = some (.struct fs)) (h : DataW.trod enc P w base spare held fuel t cs = some x)
    (i : Nat) (f : Field) (hi : fs[i]? = some f) (ho : f.offset = i) (hc : P.cellsOf f.type = 1) (hl : i < cs.length) (hs : Sz P t x.1) : ∃ v y n, cs[i]? = some v ∧ DataW.trod enc P w base spare held n f.type [v] = some y ∧ Sz P f.type y.1 := by
  obtain ⟨xs, n, _, hxd, _, hlen, hf⟩ := DataW.trod_struct ht h
  have h1 := hf i f hi
  have hlt : i < xs.length := by rw [hlen]; exact (Array.getElem?_eq_some_iff.mp hi).1
  rw [ho, hc, List.getElem?_eq_getElem hlt] at h1
  refine ⟨cs[i], xs[i], n, List.getElem?_eq_getElem hl, ?_, fun m hm => hs m ?_⟩
  rotate_left
  · rw [hxd]
    simp only [DataW.weights, ht]
    exact DataW.weights_mem_each (j := i) (t := f.type) (d := (xs[i]).1) (by simp [hi]) (by simp [hlt]) m hm
  rw [← h1]
  congr 1
  rw [List.drop_eq_getElem_cons hl]
  rfl
end
section
variable {H : Type} {enc : TypeId × Value → H} {w : World} {base : Nat} {spare : Nat → Bool} {held : Bool}
theorem sel_sz {n : Nat} {cs : List Value} {y : DataW H × List MemPlace} (hl : cs.length = 2) (h : DataW.trod enc Tryd.prog w base spare held n 61 cs = some y) (hs : Sz Tryd.prog 61 y.1) : ∃ x : MSel, cs = x.cells ∧ x.lies w ∧ x.sz := by
  obtain ⟨v0, _, _, e0, t0, s0⟩ := field_sz Tryd.underlying61 h 0 _ rfl rfl (by kernel_rfl) (by omega) hs
  obtain ⟨v1, _, _, e1, t1, s1⟩ := field_sz Tryd.underlying61 h 1 _ rfl rfl (by kernel_rfl) (by omega) hs
  obtain ⟨a, len, cap, rfl⟩ := slice_in Tryd.underlying59 t0
  obtain ⟨z1, rfl, b1⟩ := int_in Tryd.underlying3 t1
  obtain ⟨l, rfl, hr, hq, hb⟩ := rows_sz (k := 4) ⟨false, 0, 0, 0⟩ Cas.cells Cas.wf Tryd.underlying59 (by kernel_rfl) (by omega) (fun n cs y hl h _ => cas_in hl h) t0 s0
  exact ⟨⟨a, cap, l, z1⟩, list2 hl e0 e1, ⟨hr, hq, b1⟩, hb⟩
theorem fn_sz {n : Nat} {cs : List Value} {y : DataW H × List MemPlace} (hl : cs.length = 4) (h : DataW.trod enc Tryd.prog w base spare held n 58 cs = some y) (hs : Sz Tryd.prog 58 y.1) : ∃ x : MFn, cs = x.cells ∧ x.lies w ∧ x.sz := by
  obtain ⟨v0, _, _, e0, t0, s0⟩ := field_sz Tryd.underlying58 h 0 _ rfl rfl (by kernel_rfl) (by omega) hs
  obtain ⟨v1, _, _, e1, t1, s1⟩ := field_sz Tryd.underlying58 h 1 _ rfl rfl (by kernel_rfl) (by omega) hs
  obtain ⟨v2, _, _, e2, t2, s2⟩ := field_sz Tryd.underlying58 h 2 _ rfl rfl (by kernel_rfl) (by omega) hs
  obtain ⟨v3, _, _, e3, t3, s3⟩ := field_sz Tryd.underlying58 h 3 _ rfl rfl (by kernel_rfl) (by omega) hs
  obtain ⟨z0, rfl, b0⟩ := int_in Tryd.underlying3 t0
  obtain ⟨z1, rfl, b1⟩ := int_in Tryd.underlying3 t1
  obtain ⟨a2, len2, cap2, rfl⟩ := slice_in Tryd.underlying55 t2
  obtain ⟨a3, len3, cap3, rfl⟩ := slice_in Tryd.underlying56 t3
  obtain ⟨l2, rfl, hr2, hq2, hb2⟩ := rows_sz (k := 5) ⟨0, 0, 0, 0, 0⟩ Ins.cells Ins.wf Tryd.underlying55 (by kernel_rfl) (by omega) (fun n cs y hl h _ => ins_in hl h) t2 s2
  obtain ⟨l3, rfl, hr3, hq3, hb3⟩ := rows_sz (k := 2) ⟨none, 0, [], 0⟩ MSel.cells (fun s => s.lies w ∧ s.sz) Tryd.underlying56 (by kernel_rfl) (by omega) (fun n cs y hl h hs => sel_sz hl h hs) t3 s3
  exact ⟨⟨z0, z1, a2, cap2, l2, a3, cap3, l3⟩, list4 hl e0 e1 e2 e3, ⟨hr2, hr3, hq2, fun s hs => (hq3 s hs).1, b0, b1⟩, hb2, hb3, fun s hs => (hq3 s hs).2⟩
/-- A program, opened. -/
theorem prog_sz {n : Nat} {cs : List Value} {y : DataW H × List MemPlace} (h : DataW.trod enc Tryd.prog w base spare held n 26 cs = some y) (hs : Sz Tryd.prog 26 y.1) : ∃ x : MPr, Value.agg cs.toArray = x.val ∧ x.lies w ∧ x.sz := by
  have hl : cs.length = 4 := by
    obtain ⟨xs, n, _, _, hl, _⟩ := DataW.trod_struct Tryd.underlying26 h
    rw [hl]
    kernel_rfl
  obtain ⟨v0, _, _, e0, t0, s0⟩ := field_sz Tryd.underlying26 h 0 _ rfl rfl (by kernel_rfl) (by omega) hs
  obtain ⟨v1, _, _, e1, t1, s1⟩ := field_sz Tryd.underlying26 h 1 _ rfl rfl (by kernel_rfl) (by omega) hs
  obtain ⟨v2, _, _, e2, t2, s2⟩ := field_sz Tryd.underlying26 h 2 _ rfl rfl (by kernel_rfl) (by omega) hs
  obtain ⟨v3, _, _, e3, t3, s3⟩ := field_sz Tryd.underlying26 h 3 _ rfl rfl (by kernel_rfl) (by omega) hs
  obtain ⟨z1, rfl, b1⟩ := int_in Tryd.underlying3 t1
  obtain ⟨a0, len0, cap0, rfl⟩ := slice_in Tryd.underlying22 t0
  obtain ⟨a2, len2, cap2, rfl⟩ := slice_in Tryd.underlying23 t2
  obtain ⟨a3, len3, cap3, rfl⟩ := slice_in Tryd.underlying24 t3
  obtain ⟨l0, rfl, hr0, hq0, hb0⟩ := rows_sz (k := 2) ⟨false, 0⟩ Vr.cells (fun x => I64 x.init) Tryd.underlying22 (by kernel_rfl) (by omega) (fun n cs y hl h _ => vr_in hl h) t0 s0
  obtain ⟨l2, rfl, hr2, hq2, hb2⟩ := rows_sz (k := 1) 0 chCells I64 Tryd.underlying23 (by kernel_rfl) (by omega) (fun n cs y hl h _ => by
    obtain ⟨v, rfl⟩ := List.length_eq_one_iff.mp hl
    obtain ⟨z, rfl, hz⟩ := int_in Tryd.underlying3 h
    exact ⟨z, rfl, hz⟩) t2 s2
  obtain ⟨l3, rfl, hr3, hq3, hb3⟩ := rows_sz (k := 4) ⟨0, 0, none, 0, [], none, 0, []⟩ MFn.cells (fun f => f.lies w ∧ f.sz) Tryd.underlying24 (by kernel_rfl) (by omega) (fun n cs y hl h hs => fn_sz hl h hs) t3 s3
  refine ⟨⟨a0, cap0, l0, z1, a2, cap2, l2, a3, cap3, l3⟩, ?_, ⟨hr0, hr2, hr3, hq0, b1, hq2, fun f hf => (hq3 f hf).1⟩, hb0, hb2, hb3, fun f hf => (hq3 f hf).2⟩
  rw [list4 hl e0 e1 e2 e3]
end
end Go.Proofs.YtofeohhnfnnifaaDoor.pg
