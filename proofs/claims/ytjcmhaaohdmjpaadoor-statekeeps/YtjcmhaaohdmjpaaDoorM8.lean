/- Settling leaves a state of the program; a program's first state is one. -/
import Derived.Test.YtjcmhaaohdmjpaaDoorM7
import Derived.Test.YtjcmhaaohdmjpaaDoorM5
import Derived.Laws.Tables
namespace Go.Proofs.YtjcmhaaohdmjpaaDoor.pg
set_option linter.unusedVariables false
set_option linter.unusedSimpArgs false
/-- A state with another goroutine at a place. -/
def setG (s : Sts) (g : Nat) (x : Gr) : Sts := { s with gos := s.gos.set g x }
theorem setG_wf {s : Sts} (h : s.wf) (g : Nat) {x : Gr} (hx : x.wf) : (setG s g x).wf :=
  ⟨h.lv, h.lo, h.lc, by show (s.gos.set g x).length = 6; rw [List.length_set]; exact h.lg, h.av, h.ao, h.ac, fun y hy => by
    rcases List.mem_or_eq_of_mem_set hy with q | q
    · exact h.ag y q
    · rw [q]; exact hx, h.cn⟩
theorem getD_set {α : Type} (l : List α) (g i : Nat) (x d : α) (hg : g < l.length) : (l.set g x).getD i d = if i = g then x else l.getD i d := by
  rw [List.getD_eq_getElem?_getD, List.getElem?_set, List.getD_eq_getElem?_getD]
  by_cases c : i = g
  · subst c; simp [hg]
  · simp [c, Ne.symm c]
theorem stand_wf {f : Fn} (hc : GoodC f.regs f.code) {g : Gr} (hg : GrIn f.code g) (hs : standF f g) (hf : I64 g.fn) : g.wf := by
  have h64 := hc.l64
  have p0 := hg.p0
  have p1 := hg.p1
  have hst : I64 g.st := by
    have : g.st = 1 ∨ g.st = 2 ∨ g.st = 3 ∨ g.st = 4 ∨ g.st = 5 := by
      rcases hs.2.2 with q | q | q | q
      · omega
      · omega
      · omega
      · omega
    unfold I64; omega
  have hw : I64 g.why := by
    have : 0 ≤ g.why ∧ g.why ≤ 8 := by
      rcases hs.2.2 with q | q | q | q
      · omega
      · omega
      · omega
      · have := q.2.2; unfold failB at this; omega
    unfold I64; omega
  exact ⟨hst, hf, by unfold I64; omega, hw, hg.rl, hg.ri⟩
theorem fnAt_mem {P : Pr} {n : Int} (h0 : 0 ≤ n) (h1 : n < P.fns.length) : P.fns[n.toNat]? = some (fnAt P n) ∧ fnAt P n ∈ P.fns := by
  have hl : n.toNat < P.fns.length := by omega
  unfold fnAt
  rw [List.getD_eq_getElem?_getD, List.getElem?_eq_getElem hl]
  exact ⟨rfl, List.getElem_mem hl⟩
def PrI (P : Pr) : Prop := ∀ f ∈ P.fns, ∀ i ∈ f.code, I64 i.n
section
variable {ap : Int → Int → Int → Int × Int} (hap : ∀ k a b, 1 ≤ k → k ≤ 36 → I64 a → I64 b → I64 (ap k a b).1 ∧ ((ap k a b).2 = 20 → k = 19 ∨ k = 20) ∧ ((ap k a b).2 = 21 → k = 25 ∨ k = 26 ∨ k = 27))
theorem settleG_same {code : List Ins} {fuel : Nat} {g : Gr} (h1 : g.st ≠ 1) (h5 : g.st ≠ 5) : settleG ap code fuel g = g := by
  unfold settleG
  rw [wake_not h5]
  exact runG_stop (fun q => h1 q.1) fuel
include hap
/-- One that stands in a right program, settled: it stands there, and is no more or less than live where it was. -/
theorem settleG_stands {P : Pr} (hr : (chk insP P).1 = 0) (hi : PrI P) {g : Gr} (hw : g.wf) (hs : stands P g) (fuel : Nat) :
    stands P (settleG ap (fnAt P g.fn).code fuel g) ∧ (settleG ap (fnAt P g.fn).code fuel g).wf ∧ (settleG ap (fnAt P g.fn).code fuel g).fn = g.fn ∧ ((g.st = 1 ∨ g.st = 5) → (settleG ap (fnAt P g.fn).code fuel g).st ≠ 2) := by
  have hfn : (settleG ap (fnAt P g.fn).code fuel g).fn = g.fn := by unfold settleG; rw [runG_fn, wake_fn]
  obtain ⟨n0, n1, hsf⟩ := hs
  obtain ⟨m1, m2⟩ := fnAt_mem n0 n1
  have hc := good_of hr _ m2
  by_cases c : g.st = 1 ∨ g.st = 5
  · have hin : GrIn (fnAt P g.fn).code (wake g) := by
      unfold wake
      split
      · exact ⟨hsf.1, hsf.2.1, hw.2.2.2.2.1, hw.2.2.2.2.2⟩
      · exact ⟨hsf.1, hsf.2.1, hw.2.2.2.2.1, hw.2.2.2.2.2⟩
    have h1 : (wake g).st = 1 := by unfold wake; split <;> simp_all
    have h0 : (wake g).why = 0 := by
      have : g.why = 0 := by rcases hsf.2.2 with q | q | q | q <;> omega
      unfold wake; split <;> exact this
    have ht : tz (wake g).rg (fnAt P g.fn).regs.toNat := by
      have : tz g.rg (fnAt P g.fn).regs.toNat := by
        rcases hsf.2.2 with q | q | q | q
        · exact q.2.2
        · exact q.2.2.1
        · omega
        · omega
      unfold wake; split <;> exact this
    obtain ⟨a1, a2, a3⟩ := runG_stand hap hc (hi _ m2) fuel hin h1 h0 ht
    have a2' : standF (fnAt P g.fn) (settleG ap (fnAt P g.fn).code fuel g) := a2
    refine ⟨⟨by rw [hfn]; exact n0, by rw [hfn]; exact n1, by rw [hfn]; exact a2'⟩, stand_wf hc a1 a2 ?_, hfn, fun _ => a3⟩
    rw [hfn]
    exact hw.2.1
  · rw [settleG_same (by omega) (by omega)]
    exact ⟨⟨n0, n1, hsf⟩, hw, rfl, fun q => absurd q c⟩
/-- A state settled is one of the program. -/
theorem settle_valid {P : Pr} (hi : PrI P) {s : Sts} (hw : s.wf) (hv : validS P s) {g : Nat} (hg : g < s.cnt.toNat) (fuel : Nat) :
    validS P (setG s g (settleG ap (fnAt P (s.gos.getD g zeroG).fn).code fuel (s.gos.getD g zeroG))) := by
  have c6 := hv.f.c6
  have hgl : g < s.gos.length := by rw [hw.lg]; omega
  have hst := hv.g g hg
  have hgw : (s.gos.getD g zeroG).wf := by
    rw [List.getD_eq_getElem?_getD, List.getElem?_eq_getElem hgl]
    exact hw.ag _ (List.getElem_mem hgl)
  obtain ⟨k1, k2, k3, k4⟩ := settleG_stands hap hv.r hi hgw hst fuel
  by_cases c : (s.gos.getD g zeroG).st = 1 ∨ (s.gos.getD g zeroG).st = 5
  · have k5 := k4 c
    generalize settleG ap (fnAt P (s.gos.getD g zeroG).fn).code fuel (s.gos.getD g zeroG) = x at *
    have each : ∀ i, (setG s g x).gos.getD i zeroG = if i = g then x else s.gos.getD i zeroG := fun i => getD_set _ _ _ _ _ hgl
    refine ⟨hv.r, ⟨hv.f.c1, c6, fun i h1 h2 => ?_, hv.f.v, hv.f.o, hv.f.c⟩, fun i h => ?_, hv.o, hv.h, ?_, ?_⟩
    · rw [each, if_neg (by have h1' : s.cnt.toNat ≤ i := h1; omega)]
      exact hv.f.g i h1 h2
    · rw [each]
      split
      · exact k1
      · exact hv.g i h
    · intro n hn ho
      obtain ⟨q1, q2, q3⟩ := hv.w.1 n hn ho
      refine ⟨q1, q2, ?_⟩
      have hne : (chAt s n).frm.toNat ≠ g := fun e => by
        have := q3.1
        unfold goAt at this
        rw [e] at this
        omega
      show sendsC P ((s.gos.set g x).getD (chAt s n).frm.toNat zeroG) n
      rw [getD_set _ _ _ _ _ hgl, if_neg hne]
      exact q3
    · intro i h1 h2
      rw [each] at h2
      have hio : offs (setG s g x) i 4 = offs s i 4 := rfl
      rw [hio]
      split at h2
      · exact absurd h2 k5
      · exact hv.w.2 i h1 h2
  · rw [settleG_same (by omega) (by omega)]
    have e : setG s g (s.gos.getD g zeroG) = s := by
      unfold setG
      rw [List.getD_eq_getElem?_getD, List.getElem?_eq_getElem hgl]
      show Sts.mk _ _ _ (s.gos.set g s.gos[g]) _ = s
      rw [List.set_getElem_self]
    rw [e]
    exact hv
end
end Go.Proofs.YtjcmhaaohdmjpaaDoor.pg
/- The state in which a program begins. -/
namespace Go.Proofs.YtjcmhaaohdmjpaaDoor.pg
set_option linter.unusedVariables false
set_option linter.unusedSimpArgs false
/-- The variables' first values, and noughts behind them. -/
def iv (vs : List Vr) : List Int := vs.map Vr.init ++ List.replicate (8 - vs.length) 0
theorem iv_nil : iv [] = zero8 := rfl
theorem iv_more {vs : List Vr} {x : Vr} (h : vs.length < 8) : (iv vs).set vs.length x.init = iv (vs ++ [x]) := by
  unfold iv
  rw [List.set_append_right _ _ (by simp), List.length_map, Nat.sub_self, List.length_append, List.length_singleton, List.map_append, List.map_cons, List.map_nil, List.append_assoc]
  congr 1
  obtain ⟨m, hm⟩ : ∃ m, 8 - vs.length = m + 1 := ⟨7 - vs.length, by omega⟩
  rw [hm, show 8 - (vs.length + 1) = m by omega, List.replicate_succ, List.set_cons_zero]
  rfl
theorem iv_len {vs : List Vr} (h : vs.length ≤ 8) : (iv vs).length = 8 := by unfold iv; simp; omega
theorem iv_tz (vs : List Vr) : tz (iv vs) vs.length := fun i hi => by
  unfold iv
  rw [List.getD_eq_getElem?_getD, List.getElem?_append_right (by rw [List.length_map]; exact hi), List.getElem?_replicate]
  split <;> rfl
theorem iv_all {vs : List Vr} (h : ∀ x ∈ vs, I64 x.init) : AllI (iv vs) := fun x hx => by
  unfold iv at hx
  rw [List.mem_append, List.mem_map, List.mem_replicate] at hx
  rcases hx with ⟨y, hy, rfl⟩ | ⟨_, rfl⟩
  · exact h y hy
  · exact ⟨by decide, by decide⟩
def freshG : Gr := ⟨1, 0, 0, 0, zero8⟩
def startS (ap : Int → Int → Int → Int × Int) (P : Pr) (fuel : Nat) : Sts :=
  ⟨iv P.vars, [0, 0, 0, 0], [zeroC, zeroC, zeroC, zeroC], [runG ap (fun o => decide (locP o)) (fnAt P 0).code fuel freshG, zeroG, zeroG, zeroG, zeroG, zeroG], 1⟩
theorem zeroG_wf : zeroG.wf := ⟨⟨by decide, by decide⟩, ⟨by decide, by decide⟩, ⟨by decide, by decide⟩, ⟨by decide, by decide⟩, rfl, zero8_all⟩
theorem zeroC_wf : zeroC.wf := ⟨⟨by decide, by decide⟩, ⟨by decide, by decide⟩, ⟨by decide, by decide⟩, ⟨by decide, by decide⟩, rfl, fun x hx => by
  have : x = 0 := by simpa [zeroC] using hx
  rw [this]; exact ⟨by decide, by decide⟩⟩
theorem freshG_wf : freshG.wf := ⟨⟨by decide, by decide⟩, ⟨by decide, by decide⟩, ⟨by decide, by decide⟩, ⟨by decide, by decide⟩, rfl, zero8_all⟩
theorem rooms {P : Pr} (hr : (chk insP P).1 = 0) (n : Nat) : 0 ≤ P.chans.getD n 0 ∧ P.chans.getD n 0 ≤ 4 := by
  have h := chk_sizes0 hr
  have hz := sizes_ok h
  unfold sizesE at h
  rw [if_pos hz, firstE_iff] at h
  rw [List.getD_eq_getElem?_getD]
  by_cases c : n < P.chans.length
  · rw [List.getElem?_eq_getElem c]
    have := h _ (List.getElem_mem c)
    split at this
    · assumption
    · omega
  · rw [List.getElem?_eq_none (by omega)]
    exact ⟨by decide, by decide⟩
section
variable {ap : Int → Int → Int → Int × Int} (hap : ∀ k a b, 1 ≤ k → k ≤ 36 → I64 a → I64 b → I64 (ap k a b).1 ∧ ((ap k a b).2 = 20 → k = 19 ∨ k = 20) ∧ ((ap k a b).2 = 21 → k = 25 ∨ k = 26 ∨ k = 27))
include hap
theorem fresh_stands {P : Pr} (hr : (chk insP P).1 = 0) (hi : PrI P) (fuel : Nat) :
    stands P (runG ap (fun o => decide (locP o)) (fnAt P 0).code fuel freshG) ∧ (runG ap (fun o => decide (locP o)) (fnAt P 0).code fuel freshG).wf ∧ (runG ap (fun o => decide (locP o)) (fnAt P 0).code fuel freshG).st ≠ 2 := by
  have h1 := (sizes_ok (chk_sizes0 hr)).2.2.2.1
  have hm := fnAt_mem (P := P) (n := 0) (by omega) (by omega)
  have hc := good_of hr _ hm.2
  have l1 := hc.l1
  have h := settleG_stands hap hr hi freshG_wf (g := freshG) ⟨by decide, by show (0 : Int) < _; omega, by show (0 : Int) ≤ 0; omega, by show (0 : Int) < ((fnAt P 0).code.length : Int); omega, .inl ⟨.inl rfl, rfl, tz_zero8 _⟩⟩ fuel
  exact ⟨h.1, h.2.1, h.2.2.2 (.inl rfl)⟩
theorem start_valid {P : Pr} (hr : (chk insP P).1 = 0) (hi : PrI P) (hv : ∀ x ∈ P.vars, I64 x.init) (fuel : Nat) : validS P (startS ap P fuel) ∧ (startS ap P fuel).wf := by
  obtain ⟨h1, h2, h3⟩ := fresh_stands hap hr hi fuel
  have hz := sizes_ok (chk_sizes0 hr)
  have hcz : ∀ n, chAt (startS ap P fuel) n = zeroC := fun n => by
    match n with
    | 0 | 1 | 2 | 3 => rfl
    | n + 4 => rfl
  refine ⟨⟨hr, ⟨by show (1 : Int) ≤ 1; omega, by show (1 : Int) ≤ 6; omega, fun i q1 q2 => ?_, iv_tz _, fun i _ => ?_, fun i _ _ => hcz i⟩, fun i q => ?_, ?_, fun n _ => ?_, ?_, ?_⟩, ⟨iv_len hz.1, rfl, rfl, rfl, iv_all hv, ?_, ?_, ?_, ⟨by show _ ≤ (1 : Int); decide, by show (1 : Int) ≤ _; decide⟩⟩⟩
  · have q1' : 1 ≤ i := q1
    match i, q1' with
    | 1, _ | 2, _ | 3, _ | 4, _ | 5, _ => rfl
    | i + 6, _ => rfl
  · match i with
    | 0 | 1 | 2 | 3 => rfl
    | i + 4 => rfl
  · have q' : i < 1 := q
    have : i = 0 := by omega
    subst this
    exact h1
  · intro x hx
    have : x = 0 := by simpa [startS] using hx
    rw [this]
    exact ⟨by decide, by show (0 : Int) ≤ 1; decide⟩
  · rw [hcz]
    exact ⟨by decide, (rooms hr n).1, fun i _ => by
      match i with
      | 0 | 1 | 2 | 3 => rfl
      | i + 4 => rfl, .inl ⟨rfl, rfl, rfl⟩⟩
  · intro n _ h
    rw [hcz] at h
    exact absurd rfl h
  · intro i _ h
    match i, h with
    | 0, h => exact absurd h h3
    | 1, h | 2, h | 3, h | 4, h | 5, h => exact absurd h (by show ¬ (0 : Int) = 2; decide)
    | i + 6, h => exact absurd h (by show ¬ (0 : Int) = 2; decide)
  · intro x hx
    have : x = 0 := by simpa [startS] using hx
    rw [this]; exact ⟨by decide, by decide⟩
  · intro c hc
    have : c = zeroC := by simpa [startS] using hc
    rw [this]; exact zeroC_wf
  · intro g hg
    have : g = runG ap (fun o => decide (locP o)) (fnAt P 0).code fuel freshG ∨ g = zeroG := by simpa [startS] using hg
    rcases this with q | q
    · rw [q]; exact h2
    · rw [q]; exact zeroG_wf
end
end Go.Proofs.YtjcmhaaohdmjpaaDoor.pg
/- A goroutine in a box. -/
namespace Go.Proofs.YtjcmhaaohdmjpaaDoor.pg
open Go.ChangeShapes Go.WideShapes Go.ChangeAt Go.RowKit
set_option linter.unusedVariables false
set_option linter.unusedSimpArgs false
set_option maxRecDepth 100000
abbrev Gr.val (g : Gr) : Value := .agg g.cells.toArray
abbrev objG (g : Gr) : Obj := .cells g.cells.toArray 35
def InG (w : World) (B : Nat) (g : Gr) : Prop := w.heap[B]? = some (objG g)
theorem InG.lt {w : World} {B : Nat} {x : Gr} (h : InG w B x) : B < w.heap.size := (Array.getElem?_eq_some_iff.mp h).1
theorem InG.later {w w' : World} {B : Nat} {x : Gr} (h : InG w B x) (hb : Below w.heap.size w w') : InG w' B x := (hb.block B h.lt).trans h
theorem inG_new (w : World) (x : Gr) : InG (w.alloc (objG x)) w.heap.size x := heap_alloc_new w _
theorem InG.set {w : World} {B : Nat} {x : Gr} (h : InG w B x) (y : Gr) : InG (w.setRow B y.cells.toArray) B y := setRow_heap w B _ _ _ _ h
theorem InG.other {w : World} {B B' : Nat} {x : Gr} (h : InG w B x) (cs : Array Value) (hne : B ≠ B') : InG (w.setRow B' cs) B x := (setRow_other w B' B cs hne).trans h
theorem cell_ofG {w : World} {B k : Nat} {cs : Array Value} {t : TypeId} {v : Value} (h : w.heap[B]? = some (.cells cs t (0, 0))) (hk : cs[k]? = some v) : w.cell? ⟨B, k, none⟩ = some v := by
  simp [World.cell?, h, hk]
theorem InG.c0 {w : World} {B : Nat} {g : Gr} (h : InG w B g) : w.cell? ⟨B, 0, none⟩ = some (.int .i64 g.st) := cell_ofG h rfl
theorem InG.c1 {w : World} {B : Nat} {g : Gr} (h : InG w B g) : w.cell? ⟨B, 1, none⟩ = some (.int .i64 g.fn) := cell_ofG h rfl
theorem InG.c2 {w : World} {B : Nat} {g : Gr} (h : InG w B g) : w.cell? ⟨B, 2, none⟩ = some (.int .i64 g.pc) := cell_ofG h rfl
theorem InG.c3 {w : World} {B : Nat} {g : Gr} (h : InG w B g) : w.cell? ⟨B, 3, none⟩ = some (.int .i64 g.why) := cell_ofG h rfl
theorem InG.reg {w : World} {B : Nat} {g : Gr} (h : InG w B g) (hl : g.rg.length = 8) (a : Int) (h0 : 0 ≤ a) (h1 : a < 8) : w.cell? ⟨B, 4 + a.toNat, none⟩ = some (.int .i64 (g.get a)) := by
  refine cell_ofG h ?_
  have hk : a.toNat < g.rg.length := by omega
  rw [List.getElem?_toArray, Gr.cells, List.getElem?_append_right (by simp), List.getElem?_map]
  show Option.map _ (g.rg[4 + a.toNat - 4]?) = _
  rw [Nat.add_sub_cancel_left, Gr.get, List.getD_eq_getElem?_getD, List.getElem?_eq_getElem hk]
  rfl
theorem InG.fz {w : World} {B : Nat} {g : Gr} (h : InG w B g) (k : Nat) : w.frozen? ⟨B, k, none⟩ = false := frozen_of_row w B k _ _ h
theorem InG.setR {w : World} {B : Nat} {g : Gr} (h : InG w B g) (a x : Int) : InG (w.setCell ⟨B, 4 + a.toNat, none⟩ (.int .i64 x)) B (g.set a x) := by
  rw [setCell_eq_setRow w B (4 + a.toNat) _ _ _ _ h]
  have e : (g.cells.toArray).setIfInBounds (4 + a.toNat) (.int .i64 x) = (g.set a x).cells.toArray := by
    rw [List.setIfInBounds_toArray, Gr.cells, Gr.cells, List.set_append_right _ _ (by simp), List.length_cons, List.length_cons, List.length_cons, List.length_cons, List.length_nil, Nat.add_sub_cancel_left]
    simp only [Gr.set, ints, List.map_set]
  rw [e]
  exact h.set _
theorem InG.setP {w : World} {B : Nat} {g : Gr} (h : InG w B g) (x : Int) : InG (w.setCell ⟨B, 2, none⟩ (.int .i64 x)) B { g with pc := x } := by
  rw [setCell_eq_setRow w B 2 _ _ _ _ h]
  exact h.set { g with pc := x }
theorem InG.setS {w : World} {B : Nat} {g : Gr} (h : InG w B g) (x : Int) : InG (w.setCell ⟨B, 0, none⟩ (.int .i64 x)) B { g with st := x } := by
  rw [setCell_eq_setRow w B 0 _ _ _ _ h]
  exact h.set { g with st := x }
theorem infoG12 : (Tryd.prog.info? 35).map (·.size) = some 12 := by kernel_rfl
theorem infoG {g : Gr} (h : g.rg.length = 8) : (Tryd.prog.info? 35).map (·.size) = some g.cells.toArray.size := by
  rw [infoG12, List.size_toArray]
  simp [Gr.cells, h]
theorem oneG (g : Gr) : g.cells.toArray.all (·.oneCell') = true := by
  rw [List.all_toArray, List.all_eq_true]
  intro u hu
  simp only [Gr.cells, List.cons_append, List.nil_append, List.mem_cons, List.mem_map] at hu
  rcases hu with rfl | rfl | rfl | rfl | ⟨x, _, rfl⟩ <;> rfl
theorem sizeG {g : Gr} (h : g.rg.length = 8) : g.cells.toArray.size = 12 := by simp [Gr.cells, h]
theorem sizeGG {x y : Gr} (hx : x.rg.length = 8) (hy : y.rg.length = 8) : x.cells.toArray.size = y.cells.toArray.size := by rw [sizeG hx, sizeG hy]
theorem ix8 (B : Nat) (a : Int) (h0 : 0 ≤ a) (h1 : a < 8) : ∀ wx, (Instr.indexAt 28 (.pointer (some ⟨B, 4, none⟩)) (.int .i64 a)).run Tryd.prog wx = .ok (.pointer (some ⟨B, 4 + a.toNat, none⟩)) wx := by
  intro wx
  rw [run_indexAt_array _ _ _ _ _ (show Tryd.prog.underlying 28 = some (.array (Tryd.prog.arrayLen 28) (Tryd.prog.elem 28)) by kernel_rfl)]
  rw [show Tryd.prog.arrayLen 28 = 8 by kernel_rfl, show Tryd.prog.elem 28 = 2 by kernel_rfl, if_pos (by omega), Tryd.sizeOf2 wx]
  show Result.ok (Value.pointer (some ((⟨B, 4, none⟩ : Addr).add (a.toNat * 1)))) wx = _
  rw [add_none, Nat.mul_one]
/-- What is returned: a goroutine in its cell. -/
theorem results_g {fn : Func} {p : Tmp} (h : fn.results = #[.cell p 35]) (tmps : Array Value) (w : World) (B : Nat) (x : Gr) (hx : x.rg.length = 8) (hp : tmps.getD p undef = .pointer (some ⟨B, 0, none⟩)) (hB : InG w B x) :
    (results fn tmps).run Tryd.prog w = .ok x.val w := by
  have hp' : tmps[p]?.getD undef = .pointer (some ⟨B, 0, none⟩) := by simpa using hp
  simp [results, h, hp', asAddr, run_loadVar_row w B _ 35 _ _ _ hB Tryd.underlying35 rfl (infoG hx)]
theorem below_setCellG {n B : Nat} {a w : World} {g : Gr} (h : Below n a w) (hB : n ≤ B) (k : Nat) (v : Value) : Below n a (w.setCell ⟨B, k, none⟩ v) := h.setCell (p := ⟨B, k, none⟩) hB v
theorem below_setRowG {n B : Nat} {a w : World} (h : Below n a w) (hB : n ≤ B) (cs : Array Value) : Below n a (w.setRow B cs) :=
  ⟨h.os, h.tape, h.output, by rw [setRow_size]; exact h.size, fun k hk => (setRow_other w B k cs (by omega)).trans (h.block k hk)⟩
theorem zeroG_obj : objG zeroG = .cells #[.int .i64 0, .int .i64 0, .int .i64 0, .int .i64 0, .int .i64 0, .int .i64 0, .int .i64 0, .int .i64 0, .int .i64 0, .int .i64 0, .int .i64 0, .int .i64 0] 35 := rfl
end Go.Proofs.YtjcmhaaohdmjpaaDoor.pg
