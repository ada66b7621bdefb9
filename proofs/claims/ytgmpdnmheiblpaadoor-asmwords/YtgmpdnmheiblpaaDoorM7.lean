/- The state in which a program begins. -/
import Derived.Test.YtgmpdnmheiblpaaDoorM6
import Derived.Test.YtgmpdnmheiblpaaDoorM3
import Derived.Test.YtgmpdnmheiblpaaDoorM4
import Derived.Laws.Tables
import Derived.Test.YtgmpdnmheiblpaaDoorM2
import Derived.SizedLaws
namespace Go.Proofs.YtgmpdnmheiblpaaDoor.pg
set_option linter.unusedVariables false
set_option linter.unusedSimpArgs false
/-- The variables' first values, and noughts behind them. -/
def iv (vs : List Vr) : List Int := vs.map Vr.init ++ List.replicate (8 - vs.length) 0
theorem iv_nil : iv [] = zero8 := rfl
theorem iv_more {vs : List Vr} {x : Vr} (h : vs.length < 8) : (iv vs).set vs.length x.init = iv (vs ++ [x]) := by
  unfold iv
  rw [List.set_append_right _ _ (by simp), List.length_map, Nat.sub_self, List.length_append, List.length_singleton, List.map_append, List.map_cons, List.map_nil, List.append_assoc]
  congr 1
  obtain ⟨m, hm⟩ : ∃ m, 8 - vs.length = m + 1 := ⟨7 - vs.length, by omega⟩
  rw [hm, show 8 - (vs.length + 1) = m by omega, List.replicate_succ, List.set_cons_zero]
  rfl
theorem iv_len {vs : List Vr} (h : vs.length ≤ 8) : (iv vs).length = 8 := by unfold iv; simp; omega
theorem iv_tz (vs : List Vr) : tz (iv vs) vs.length := fun i hi => by
  unfold iv
  rw [List.getD_eq_getElem?_getD, List.getElem?_append_right (by rw [List.length_map]; exact hi), List.getElem?_replicate]
  split <;> rfl
theorem iv_all {vs : List Vr} (h : ∀ x ∈ vs, I64 x.init) : AllI (iv vs) := fun x hx => by
  unfold iv at hx
  rw [List.mem_append, List.mem_map, List.mem_replicate] at hx
  rcases hx with ⟨y, hy, rfl⟩ | ⟨_, rfl⟩
  · exact h y hy
  · exact ⟨by decide, by decide⟩
def freshG : Gr := ⟨1, 0, 0, 0, zero8⟩
def startS (ap : Int → Int → Int → Int × Int) (P : Pr) (fuel : Nat) : Sts :=
  ⟨iv P.vars, [0, 0, 0, 0], [zeroC, zeroC, zeroC, zeroC], [runG ap (fun o => decide (locP o)) (fnAt P 0).code fuel freshG, zeroG, zeroG, zeroG, zeroG, zeroG], 1⟩
theorem zeroG_wf : zeroG.wf := ⟨⟨by decide, by decide⟩, ⟨by decide, by decide⟩, ⟨by decide, by decide⟩, ⟨by decide, by decide⟩, rfl, zero8_all⟩
theorem zeroC_wf : zeroC.wf := ⟨⟨by decide, by decide⟩, ⟨by decide, by decide⟩, ⟨by decide, by decide⟩, ⟨by decide, by decide⟩, rfl, fun x hx => by
  have : x = 0 := by simpa [zeroC] using hx
  rw [this]; exact ⟨by decide, by decide⟩⟩
theorem freshG_wf : freshG.wf := ⟨⟨by decide, by decide⟩, ⟨by decide, by decide⟩, ⟨by decide, by decide⟩, ⟨by decide, by decide⟩, rfl, zero8_all⟩
theorem rooms {P : Pr} (hr : (chk insP P).1 = 0) (n : Nat) : 0 ≤ P.chans.getD n 0 ∧ P.chans.getD n 0 ≤ 4 := by
  have h := chk_sizes0 hr
  have hz := sizes_ok h
  unfold sizesE at h
  rw [if_pos hz, firstE_iff] at h
  rw [List.getD_eq_getElem?_getD]
  by_cases c : n < P.chans.length
  · rw [List.getElem?_eq_getElem c]
    have := h _ (List.getElem_mem c)
    split at this
    · assumption
    · omega
  · rw [List.getElem?_eq_none (by omega)]
    exact ⟨by decide, by decide⟩
section
variable {ap : Int → Int → Int → Int × Int} (hap : ∀ k a b, 1 ≤ k → k ≤ 36 → I64 a → I64 b → I64 (ap k a b).1 ∧ ((ap k a b).2 = 20 → k = 19 ∨ k = 20) ∧ ((ap k a b).2 = 21 → k = 25 ∨ k = 26 ∨ k = 27))
include hap
theorem fresh_stands {P : Pr} (hr : (chk insP P).1 = 0) (hi : PrI P) (fuel : Nat) :
    stands P (runG ap (fun o => decide (locP o)) (fnAt P 0).code fuel freshG) ∧ (runG ap (fun o => decide (locP o)) (fnAt P 0).code fuel freshG).wf ∧ (runG ap (fun o => decide (locP o)) (fnAt P 0).code fuel freshG).st ≠ 2 := by
  have h1 := (sizes_ok (chk_sizes0 hr)).2.2.2.1
  have hm := fnAt_mem (P := P) (n := 0) (by omega) (by omega)
  have hc := good_of hr _ hm.2
  have l1 := hc.l1
  have h := settleG_stands hap hr hi freshG_wf (g := freshG) ⟨by decide, by show (0 : Int) < _; omega, by show (0 : Int) ≤ 0; omega, by show (0 : Int) < ((fnAt P 0).code.length : Int); omega, .inl ⟨.inl rfl, rfl, tz_zero8 _⟩⟩ fuel
  exact ⟨h.1, h.2.1, h.2.2.2 (.inl rfl)⟩
theorem start_valid {P : Pr} (hr : (chk insP P).1 = 0) (hi : PrI P) (hv : ∀ x ∈ P.vars, I64 x.init) (fuel : Nat) : validS P (startS ap P fuel) ∧ (startS ap P fuel).wf := by
  obtain ⟨h1, h2, h3⟩ := fresh_stands hap hr hi fuel
  have hz := sizes_ok (chk_sizes0 hr)
  have hcz : ∀ n, chAt (startS ap P fuel) n = zeroC := fun n => by
    match n with
    | 0 | 1 | 2 | 3 => rfl
    | n + 4 => rfl
  refine ⟨⟨hr, ⟨by show (1 : Int) ≤ 1; omega, by show (1 : Int) ≤ 6; omega, fun i q1 q2 => ?_, iv_tz _, fun i _ => ?_, fun i _ _ => hcz i⟩, fun i q => ?_, ?_, fun n _ => ?_, ?_, ?_⟩, ⟨iv_len hz.1, rfl, rfl, rfl, iv_all hv, ?_, ?_, ?_, ⟨by show _ ≤ (1 : Int); decide, by show (1 : Int) ≤ _; decide⟩⟩⟩
  · have q1' : 1 ≤ i := q1
    match i, q1' with
    | 1, _ | 2, _ | 3, _ | 4, _ | 5, _ => rfl
    | i + 6, _ => rfl
  · match i with
    | 0 | 1 | 2 | 3 => rfl
    | i + 4 => rfl
  · have q' : i < 1 := q
    have : i = 0 := by omega
    subst this
    exact h1
  · intro x hx
    have : x = 0 := by simpa [startS] using hx
    rw [this]
    exact ⟨by decide, by show (0 : Int) ≤ 1; decide⟩
  · rw [hcz]
    exact ⟨by decide, (rooms hr n).1, fun i _ => by
      match i with
      | 0 | 1 | 2 | 3 => rfl
      | i + 4 => rfl, .inl ⟨rfl, rfl, rfl⟩⟩
  · intro n _ h
    rw [hcz] at h
    exact absurd rfl h
  · intro i _ h
    match i, h with
    | 0, h => exact absurd h h3
    | 1, h | 2, h | 3, h | 4, h | 5, h => exact absurd h (by show ¬ (0 : Int) = 2; decide)
    | i + 6, h => exact absurd h (by show ¬ (0 : Int) = 2; decide)
  · intro x hx
    have : x = 0 := by simpa [startS] using hx
    rw [this]; exact ⟨by decide, by decide⟩
  · intro c hc
    have : c = zeroC := by simpa [startS] using hc
    rw [this]; exact zeroC_wf
  · intro g hg
    have : g = runG ap (fun o => decide (locP o)) (fnAt P 0).code fuel freshG ∨ g = zeroG := by simpa [startS] using hg
    rcases this with q | q
    · rw [q]; exact h2
    · rw [q]; exact zeroG_wf
end
end Go.Proofs.YtgmpdnmheiblpaaDoor.pg
/- A goroutine in a box. -/
namespace Go.Proofs.YtgmpdnmheiblpaaDoor.pg
open Go.ChangeShapes Go.WideShapes Go.ChangeAt Go.RowKit
set_option linter.unusedVariables false
set_option linter.unusedSimpArgs false
set_option maxRecDepth 100000
abbrev Gr.val (g : Gr) : Value := .agg g.cells.toArray
abbrev objG (g : Gr) : Obj := .cells g.cells.toArray 35
def InG (w : World) (B : Nat) (g : Gr) : Prop := w.heap[B]? = some (objG g)
theorem InG.lt {w : World} {B : Nat} {x : Gr} (h : InG w B x) : B < w.heap.size := (Array.getElem?_eq_some_iff.mp h).1
theorem InG.later {w w' : World} {B : Nat} {x : Gr} (h : InG w B x) (hb : Below w.heap.size w w') : InG w' B x := (hb.block B h.lt).trans h
theorem inG_new (w : World) (x : Gr) : InG (w.alloc (objG x)) w.heap.size x := heap_alloc_new w _
theorem InG.set {w : World} {B : Nat} {x : Gr} (h : InG w B x) (y : Gr) : InG (w.setRow B y.cells.toArray) B y := setRow_heap w B _ _ _ _ h
theorem InG.other {w : World} {B B' : Nat} {x : Gr} (h : InG w B x) (cs : Array Value) (hne : B ≠ B') : InG (w.setRow B' cs) B x := (setRow_other w B' B cs hne).trans h
theorem cell_ofG {w : World} {B k : Nat} {cs : Array Value} {t : TypeId} {v : Value} (h : w.heap[B]? = some (.cells cs t (0, 0))) (hk : cs[k]? = some v) : w.cell? ⟨B, k, none⟩ = some v := by
  simp [World.cell?, h, hk]
theorem InG.c0 {w : World} {B : Nat} {g : Gr} (h : InG w B g) : w.cell? ⟨B, 0, none⟩ = some (.int .i64 g.st) := cell_ofG h rfl
theorem InG.c1 {w : World} {B : Nat} {g : Gr} (h : InG w B g) : w.cell? ⟨B, 1, none⟩ = some (.int .i64 g.fn) := cell_ofG h rfl
theorem InG.c2 {w : World} {B : Nat} {g : Gr} (h : InG w B g) : w.cell? ⟨B, 2, none⟩ = some (.int .i64 g.pc) := cell_ofG h rfl
theorem InG.c3 {w : World} {B : Nat} {g : Gr} (h : InG w B g) : w.cell? ⟨B, 3, none⟩ = some (.int .i64 g.why) := cell_ofG h rfl
theorem InG.reg {w : World} {B : Nat} {g : Gr} (h : InG w B g) (hl : g.rg.length = 8) (a : Int) (h0 : 0 ≤ a) (h1 : a < 8) : w.cell? ⟨B, 4 + a.toNat, none⟩ = some (.int .i64 (g.get a)) := by
  refine cell_ofG h ?_
  have hk : a.toNat < g.rg.length := by omega
  rw [List.getElem?_toArray, Gr.cells, List.getElem?_append_right (by simp), List.getElem?_map]
  show Option.map _ (g.rg[4 + a.toNat - 4]?) = _
  rw [Nat.add_sub_cancel_left, Gr.get, List.getD_eq_getElem?_getD, List.getElem?_eq_getElem hk]
  rfl
theorem InG.fz {w : World} {B : Nat} {g : Gr} (h : InG w B g) (k : Nat) : w.frozen? ⟨B, k, none⟩ = false := frozen_of_row w B k _ _ h
theorem InG.setR {w : World} {B : Nat} {g : Gr} (h : InG w B g) (a x : Int) : InG (w.setCell ⟨B, 4 + a.toNat, none⟩ (.int .i64 x)) B (g.set a x) := by
  rw [setCell_eq_setRow w B (4 + a.toNat) _ _ _ _ h]
  have e : (g.cells.toArray).setIfInBounds (4 + a.toNat) (.int .i64 x) = (g.set a x).cells.toArray := by
    rw [List.setIfInBounds_toArray, Gr.cells, Gr.cells, List.set_append_right _ _ (by simp), List.length_cons, List.length_cons, List.length_cons, List.length_cons, List.length_nil, Nat.add_sub_cancel_left]
    simp only [Gr.set, ints, List.map_set]
  rw [e]
  exact h.set _
theorem InG.setP {w : World} {B : Nat} {g : Gr} (h : InG w B g) (x : Int) : InG (w.setCell ⟨B, 2, none⟩ (.int .i64 x)) B { g with pc := x } := by
  rw [setCell_eq_setRow w B 2 _ _ _ _ h]
  exact h.set { g with pc := x }
theorem InG.setS {w : World} {B : Nat} {g : Gr} (h : InG w B g) (x : Int) : InG (w.setCell ⟨B, 0, none⟩ (.int .i64 x)) B { g with st := x } := by
  rw [setCell_eq_setRow w B 0 _ _ _ _ h]
  exact h.set { g with st := x }
theorem infoG12 : (Tryd.prog.info? 35).map (·.size) = some 12 := by kernel_rfl
theorem infoG {g : Gr} (h : g.rg.length = 8) : (Tryd.prog.info? 35).map (·.size) = some g.cells.toArray.size := by
  rw [infoG12, List.size_toArray]
  simp [Gr.cells, h]
theorem oneG (g : Gr) : g.cells.toArray.all (·.oneCell') = true := by
  rw [List.all_toArray, List.all_eq_true]
  intro u hu
  simp only [Gr.cells, List.cons_append, List.nil_append, List.mem_cons, List.mem_map] at hu
  rcases hu with rfl | rfl | rfl | rfl | ⟨x, _, rfl⟩ <;> rfl
theorem sizeG {g : Gr} (h : g.rg.length = 8) : g.cells.toArray.size = 12 := by simp [Gr.cells, h]
theorem sizeGG {x y : Gr} (hx : x.rg.length = 8) (hy : y.rg.length = 8) : x.cells.toArray.size = y.cells.toArray.size := by rw [sizeG hx, sizeG hy]
theorem ix8 (B : Nat) (a : Int) (h0 : 0 ≤ a) (h1 : a < 8) : ∀ wx, (Instr.indexAt 28 (.pointer (some ⟨B, 4, none⟩)) (.int .i64 a)).run Tryd.prog wx = .ok (.pointer (some ⟨B, 4 + a.toNat, none⟩)) wx := by
  intro wx
  rw [run_indexAt_array _ _ _ _ _ (show Tryd.prog.underlying 28 = some (.array (Tryd.prog.arrayLen 28) (Tryd.prog.elem 28)) by kernel_rfl)]
  rw [show Tryd.prog.arrayLen 28 = 8 by kernel_rfl, show Tryd.prog.elem 28 = 2 by kernel_rfl, if_pos (by omega), Tryd.sizeOf2 wx]
  show Result.ok (Value.pointer (some ((⟨B, 4, none⟩ : Addr).add (a.toNat * 1)))) wx = _
  rw [add_none, Nat.mul_one]
/-- What is returned: a goroutine in its cell. -/
theorem results_g {fn : Func} {p : Tmp} (h : fn.results = #[.cell p 35]) (tmps : Array Value) (w : World) (B : Nat) (x : Gr) (hx : x.rg.length = 8) (hp : tmps.getD p undef = .pointer (some ⟨B, 0, none⟩)) (hB : InG w B x) :
    (results fn tmps).run Tryd.prog w = .ok x.val w := by
  have hp' : tmps[p]?.getD undef = .pointer (some ⟨B, 0, none⟩) := by simpa using hp
  simp [results, h, hp', asAddr, run_loadVar_row w B _ 35 _ _ _ hB Tryd.underlying35 rfl (infoG hx)]
theorem below_setCellG {n B : Nat} {a w : World} {g : Gr} (h : Below n a w) (hB : n ≤ B) (k : Nat) (v : Value) : Below n a (w.setCell ⟨B, k, none⟩ v) := h.setCell (p := ⟨B, k, none⟩) hB v
theorem below_setRowG {n B : Nat} {a w : World} (h : Below n a w) (hB : n ≤ B) (cs : Array Value) : Below n a (w.setRow B cs) :=
  ⟨h.os, h.tape, h.output, by rw [setRow_size]; exact h.size, fun k hk => (setRow_other w B k cs (by omega)).trans (h.block k hk)⟩
theorem zeroG_obj : objG zeroG = .cells #[.int .i64 0, .int .i64 0, .int .i64 0, .int .i64 0, .int .i64 0, .int .i64 0, .int .i64 0, .int .i64 0, .int .i64 0, .int .i64 0, .int .i64 0, .int .i64 0] 35 := rfl
end Go.Proofs.YtgmpdnmheiblpaaDoor.pg
/- A program that came in, opened, with its sizes: none of its lists takes more bytes than a machine has. -/
namespace Go.Proofs.YtgmpdnmheiblpaaDoor.pg
open Go.ChangeShapes Go.WideShapes Go.ChangeAt Go.RowKit
set_option linter.unusedVariables false
set_option maxRecDepth 100000
def MSel.sz (s : MSel) : Prop := s.cases.length * 32 ≤ reachBytes
def MFn.sz (f : MFn) : Prop := f.code.length * 40 ≤ reachBytes ∧ f.sels.length * 32 ≤ reachBytes ∧ ∀ s ∈ f.sels, s.sz
def MPr.sz (p : MPr) : Prop := p.vars.length * 16 ≤ reachBytes ∧ p.chans.length * 8 ≤ reachBytes ∧ p.fns.length * 64 ≤ reachBytes ∧ ∀ f ∈ p.fns, f.sz
section
variable {H : Type} {enc : TypeId × Value → H} {P : Program} {w : World} {base : Nat} {spare : Nat → Bool} {held : Bool}
def Sz (P : Program) (t : TypeId) (d : DataW H) : Prop := ∀ n ∈ d.weights P t, n ≤ reachBytes
theorem mem_weightsAll {e : TypeId} {l : List (DataW H)} {d : DataW H} (hd : d ∈ l) (n : Nat) (hn : n ∈ d.weights P e) : n ∈ DataW.weightsAll P e l := by
  induction l with
  | nil => simp at hd
  | cons x t ih =>
    simp only [DataW.weightsAll, List.mem_append]
    rcases List.mem_cons.mp hd with rfl | hd
    · exact .inl hn
    · exact .inr (ih hd)
/-- A list, opened: its elements' cells are as the elements' own readings tell. -/
theorem rows_sz {α : Type} (dflt : α) {t e : TypeId} {k fuel : Nat} {a : Option Addr} {len cap : Nat} {x : DataW H × List MemPlace} (C : α → List Value) (Q : α → Prop) (ht : P.underlying t = some (.slice e)) (hk : P.cellsOf e = k) (hk0 : 0 < k)
    (hel : ∀ n cs y, cs.length = k → DataW.trod enc P w base spare held n e cs = some y → Sz P e y.1 → ∃ x, cs = C x ∧ Q x)
    (h : DataW.trod enc P w base spare held fuel t [.slice a len cap] = some x) (hs : Sz P t x.1) : ∃ l : List α, l.length = len ∧ Rows w k a cap (l.map C) ∧ (∀ x ∈ l, Q x) ∧ len * P.bytesOf e ≤ reachBytes := by
  rcases Go.Deep.open_slice ht h with ⟨hcs, _⟩ | ⟨ad, len', cap', m, n, D, Pl, hcs, _, hl, hm, hmm, hxd, hx⟩
  · simp only [List.cons.injEq, Value.slice.injEq, and_true] at hcs
    obtain ⟨rfl, rfl, rfl⟩ := hcs
    exact ⟨[], rfl, ⟨by simp, by simp, by simp, .inl rfl⟩, by simp, by simp⟩
  · simp only [List.cons.injEq, Value.slice.injEq, and_true] at hcs
    obtain ⟨rfl, rfl, rfl⟩ := hcs
    unfold maxLen at hm
    have hlm : len ≤ m := by rw [hmm]; split <;> omega
    subst hxd
    have hs1 : (((List.range len).map D).length + ((List.range (m - len)).map fun j => D (len + j)).length) * P.bytesOf e ≤ reachBytes := hs _ (by
      simp only [DataW.weights, ht]; exact List.mem_cons_self)
    have hs2 : ∀ i, i < len → Sz P e (D i) := fun i hi n hn => hs n (by
      simp only [DataW.weights, ht]
      refine List.mem_cons_of_mem _ (List.mem_append_left _ (mem_weightsAll (d := D i) ?_ n hn))
      simp only [List.mem_map, List.mem_range]
      exact ⟨i, hi, rfl⟩)
    have each : ∀ i, i < len → ∃ y : α, Q y ∧ (C y).length = k ∧ ∀ j u, (C y)[j]? = some u → w.cell? (ad.add (i * k + j)) = some u := fun i hi => by
      obtain ⟨cs', h1, h2⟩ := hx i (by omega)
      rw [hk] at h1
      obtain ⟨_, hlen, hcell⟩ := World.cells?_some h1
      obtain ⟨y, rfl, hQ⟩ := hel n cs' _ hlen h2 (hs2 i hi)
      refine ⟨y, hQ, hlen, fun j u hj => ?_⟩
      have hjk : j < k := by have := (List.getElem?_eq_some_iff.mp hj).1; omega
      have := hcell j hjk
      rw [Go.Deep.add_add] at this
      rw [this, hj]
    have inh : Inhabited α := ⟨dflt⟩
    obtain ⟨f, hf⟩ := Go.Deep.choose_lt each
    refine ⟨(List.range len).map f, by simp, ⟨by simpa using hl, by omega, by simp, ?_⟩, fun y hy => ?_, ?_⟩
    · by_cases h0 : len = 0
      · subst h0; exact .inl rfl
      right
      obtain ⟨b, off, spot⟩ := ad
      obtain ⟨_, hl0, hc0⟩ := hf 0 (by omega)
      have hcell0 : w.cell? ((⟨b, off, spot⟩ : Addr).add (0 * k + 0)) = some ((C (f 0))[0]'(by omega)) := hc0 0 _ (List.getElem?_eq_getElem (by omega))
      have hs : spot = none := by simpa [Addr.add] using World.cell?_spot hcell0
      subst hs
      rw [add_none] at hcell0
      refine ⟨b, off, rfl, World.block_lt_of_cell? _ _ hcell0, fun i row hi => ?_⟩
      simp only [List.map_map, List.getElem?_map, Option.map_eq_some_iff] at hi
      obtain ⟨i', hi', rfl⟩ := hi
      have hil : i < len ∧ i' = i := by
        have h1 := (List.getElem?_eq_some_iff.mp hi').1
        have h2 := (List.getElem?_eq_some_iff.mp hi').2
        simp at h1 h2
        exact ⟨h1, h2.symm⟩
      obtain ⟨hil, rfl⟩ := hil
      obtain ⟨_, h1, h2⟩ := hf i' hil
      exact ⟨h1, fun j u hj => by rw [← add_none]; exact h2 j u hj⟩
    · simp only [List.mem_map, List.mem_range] at hy
      obtain ⟨i, hi, rfl⟩ := hy
      exact (hf i hi).1
    · have := hs1
      simp only [List.length_map, List.length_range] at this
      exact Nat.le_trans (Nat.mul_le_mul_right _ (Nat.le_add_right _ _)) this
/-- A field of one cell. -/
theorem field_sz {t : TypeId} {fs : Array Field} {fuel : Nat} {cs : List Value} {x : DataW H × List MemPlace} (ht : P.underlying t = some (.struct fs)) (h : DataW.trod enc P w base spare held fuel t cs = some x)
    (i : Nat) (f : Field) (hi : fs[i]? = some f) (ho : f.offset = i) (hc : P.cellsOf f.type = 1) (hl : i < cs.length) (hs : Sz P t x.1) : ∃ v y n, cs[i]? = some v ∧ DataW.trod enc P w base spare held n f.type [v] = some y ∧ Sz P f.type y.1 := by
  obtain ⟨xs, n, _, hxd, _, hlen, hf⟩ := DataW.trod_struct ht h
  have h1 := hf i f hi
  have hlt : i < xs.length := by rw [hlen]; exact (Array.getElem?_eq_some_iff.mp hi).1
  rw [ho, hc, List.getElem?_eq_getElem hlt] at h1
  refine ⟨cs[i], xs[i], n, List.getElem?_eq_getElem hl, ?_, fun m hm => hs m ?_⟩
  rotate_left
  · rw [hxd]
    simp only [DataW.weights, ht]
    exact DataW.weights_mem_each (j := i) (t := f.type) (d := (xs[i]).1) (by simp [hi]) (by simp [hlt]) m hm
  rw [← h1]
  congr 1
  rw [List.drop_eq_getElem_cons hl]
  rfl
end
section
variable {H : Type} {enc : TypeId × Value → H} {w : World} {base : Nat} {spare : Nat → Bool} {held : Bool}
end
end Go.Proofs.YtgmpdnmheiblpaaDoor.pg
