/- The states that package prog's Copy goes through, and its steps. -/
import Derived.Test.YtaghfahhfockkaaCopy1
namespace Go.Proofs.Ytaghfahhfockkaa.pg
open Go.ChangeShapes Go.WideShapes Go.ChangeAt Go.RowKit
set_option linter.unusedVariables false
set_option linter.unusedSimpArgs false
structure KSt (M : MPr) (w : World) (k : Nat) (N : MPr) (wr : World) : Prop where
  be : Below w.heap.size w wr
  b0 : wr.heap[w.heap.size]? = some (objP N)
  b1 : wr.heap[w.heap.size + 1]? = some objN
  ev : N.vars = M.vars
  el : N.locks = M.locks
  ec : N.chans = M.chans
  fl : N.fns.length = M.fns.length
  od : ∀ i, k ≤ i → N.fns[i]? = M.fns[i]?
  nw : ∀ (i : Nat) (x y : MFn), i < k → M.fns[i]? = some x → N.fns[i]? = some y → y.fn = x.fn ∧ y.own wr (w.heap.size + 2)
  ov : OwnL wr (w.heap.size + 2) 31 2 N.va N.vcap (N.vars.map Vr.cells)
  oc : OwnL wr (w.heap.size + 2) 3 1 N.cha N.chcap (N.chans.map chCells)
  of : OwnL wr (w.heap.size + 2) 35 4 N.fa N.fcap (N.fns.map MFn.cells)
structure JSt (M : MPr) (w : World) (k : Nat) (N : MPr) (x : MFn) (q : Nat) (y : MFn) (hk : Nat) (wr : World) : Prop where
  be : Below w.heap.size w wr
  b0 : wr.heap[w.heap.size]? = some (objP N)
  b1 : wr.heap[w.heap.size + 1]? = some objN
  ev : N.vars = M.vars
  el : N.locks = M.locks
  ec : N.chans = M.chans
  fl : N.fns.length = M.fns.length
  xk : M.fns[k]? = some x
  yk : N.fns[k]? = some y
  od : ∀ i, k < i → N.fns[i]? = M.fns[i]?
  nw : ∀ (i : Nat) (x y : MFn), i < k → M.fns[i]? = some x → N.fns[i]? = some y → y.fn = x.fn ∧ y.own wr (w.heap.size + 2)
  nb : ∀ (i : Nat) (y : MFn), i < k → N.fns[i]? = some y → ∀ b ∈ blk y.sa, b < hk
  ov : OwnL wr (w.heap.size + 2) 31 2 N.va N.vcap (N.vars.map Vr.cells)
  oc : OwnL wr (w.heap.size + 2) 3 1 N.cha N.chcap (N.chans.map chCells)
  of : OwnL wr (w.heap.size + 2) 35 4 N.fa N.fcap (N.fns.map MFn.cells)
  yp : y.params = x.params
  yr : y.regs = x.regs
  yc : y.code = x.code
  oy : OwnL wr (w.heap.size + 2) 47 5 y.ca y.ccap (y.code.map Ins.cells)
  os : OwnL wr (w.heap.size + 2) 39 2 y.sa y.scap (y.sels.map MSel.cells)
  hs : ∀ b ∈ blk y.sa, hk ≤ b
  sl : y.sels.length = x.sels.length
  so : ∀ i, q ≤ i → y.sels[i]? = x.sels[i]?
  sn : ∀ (i : Nat) (s t : MSel), i < q → x.sels[i]? = some s → y.sels[i]? = some t → t.sel = s.sel ∧ OwnL wr (w.heap.size + 2) 51 4 t.at_ t.cap (t.cases.map Cas.cells)
theorem heap_next {x w w' : World} (hx : x.heap = w.heap) (hb : Below x.heap.size x w') {b : Nat} (hlt : b < w.heap.size) : w'.heap[b]? = w.heap[b]? := by
  have := hb.block b (by rw [hx]; exact hlt)
  rw [this, hx]
theorem below_heap {n : Nat} {w x : World} {w' : World} {wr : World} (h : Below n w wr) (hn : n ≤ wr.heap.size) (hx : x.heap = wr.heap) (hxa : Below 0 wr x) (hb : Below x.heap.size x w') : Below n w w' :=
  ⟨hb.os.trans (hxa.os.trans h.os), hb.tape.trans (hxa.tape.trans h.tape), hb.output.trans (hxa.output.trans h.output), by have := h.size; have := hb.size; rw [hx] at this; omega, fun b hlt => (heap_next hx hb (by omega)).trans (h.block b hlt)⟩
theorem fn_own_next {x w w' : World} {lo : Nat} {f : MFn} (h : f.own w lo) (hx : x.heap = w.heap) (hb : Below x.heap.size x w') : f.own w' lo := ⟨own_next h.1 hx hb, own_next h.2.1 hx hb, fun s hs => own_next (h.2.2 s hs) hx hb⟩
/-- A store into a list of functions leaves a function's own lists. -/
theorem fn_own_F {w : World} {lo lo' g cap : Nat} {f : MFn} {L : List (List Value)} (h : f.own w lo) (hF : OwnL w lo' 35 4 (some ⟨g, 0, none⟩) cap L) (o : Nat) (v : Value) : f.own (w.setCell ⟨g, o, none⟩ v) lo := by
  have hg : g ∈ blk (some (⟨g, 0, none⟩ : Addr)) := by simp [blk]
  exact ⟨own_other h.1 (own_apart hF h.1 (by decide) hg) o v, own_other h.2.1 (own_apart hF h.2.1 (by decide) hg) o v, fun s hs => own_other (h.2.2 s hs) (own_apart hF (h.2.2 s hs) (by decide) hg) o v⟩
theorem objP_set (N : MPr) (k : Nat) (y : MFn) : objP { N with fns := N.fns.set k y } = objP N := by simp [objP]
theorem get_set_self {α : Type} (l : List α) (k : Nat) (x y : α) (h : l[k]? = some x) : (l.set k y)[k]? = some y := List.getElem?_set_self (List.getElem?_eq_some_iff.mp h).1
theorem get_set_ne {α : Type} (l : List α) (k i : Nat) (y : α) (h : k ≠ i) : (l.set k y)[i]? = l[i]? := List.getElem?_set_ne h
theorem list_same {α : Type} (l : List α) (n : Nat) (x : α) (h : l[n]? = some x) : l.set n x = l := by
  apply List.ext_getElem?
  intro i
  by_cases hi : n = i
  · subst hi
    rw [List.getElem?_set_self (List.getElem?_eq_some_iff.mp h).1, h]
  · rw [List.getElem?_set_ne hi]
section
variable {M N : MPr} {w wr : World} {k : Nat}
theorem jst_start (st : KSt M w k N wr) {x : MFn} (hx : M.fns[k]? = some x) {g : Nat} (hg : N.fa = some ⟨g, 0, none⟩)
    {x1 x2 w1 w2 : World} (e1 : x1.heap = wr.heap) (a1 : Below 0 wr x1) (b1 : Below x1.heap.size x1 w1) {ca : Option Addr} {cc : Nat} (o1 : OwnL w1 x1.heap.size 47 5 ca cc (x.code.map Ins.cells))
    (e2 : x2.heap = w1.heap) (a2 : Below 0 w1 x2) (b2 : Below x2.heap.size x2 w2) {sa : Option Addr} {sc : Nat} (o2 : OwnL w2 x2.heap.size 39 2 sa sc (x.sels.map MSel.cells)) :
    JSt M w k { N with fns := N.fns.set k ⟨x.params, x.regs, ca, cc, x.code, sa, sc, x.sels⟩ } x 0 ⟨x.params, x.regs, ca, cc, x.code, sa, sc, x.sels⟩ wr.heap.size ((w2.setCell ⟨g, k * 4 + 2, none⟩ (.slice ca x.code.length cc)).setCell ⟨g, k * 4 + 3, none⟩ (.slice sa x.sels.length sc)) := by
  have hNk : N.fns[k]? = some x := (st.od k (Nat.le_refl _)).trans hx
  have hof := st.of
  rw [hg] at hof
  have hgb : g ∈ blk (some (⟨g, 0, none⟩ : Addr)) := by simp [blk]
  have hgl := blk_lt hof g hgb
  have hz1 : wr.heap.size ≤ w1.heap.size := by have := b1.size; rw [e1] at this; exact this
  have hz2 : w1.heap.size ≤ w2.heap.size := by have := b2.size; rw [e2] at this; exact this
  have hwz := st.be.size
  have hB0 : w.heap.size < wr.heap.size := (Array.getElem?_eq_some_iff.mp st.b0).1
  have hB1 : w.heap.size + 1 < wr.heap.size := (Array.getElem?_eq_some_iff.mp st.b1).1
  have hf2 : OwnL w2 (w.heap.size + 2) 35 4 (some ⟨g, 0, none⟩) N.fcap (N.fns.map MFn.cells) := own_next (own_next hof e1 b1) e2 b2
  have hf3 := own_put hf2 (len4f _) k x.cells (by simp [hNk]) 2 (by omega) (.slice ca x.code.length cc)
  have hf4 := own_put hf3 (by
    intro row hr
    rcases List.mem_or_eq_of_mem_set hr with q | q
    · exact len4f _ row q
    · rw [q]; rfl) k (x.cells.set 2 (.slice ca x.code.length cc)) (get_set_self _ k x.cells _ (by simp [hNk])) 3 (by omega) (.slice sa x.sels.length sc)
  have hlist : ((N.fns.map MFn.cells).set k (x.cells.set 2 (.slice ca x.code.length cc))).set k ((x.cells.set 2 (.slice ca x.code.length cc)).set 3 (.slice sa x.sels.length sc)) = (N.fns.set k ⟨x.params, x.regs, ca, cc, x.code, sa, sc, x.sels⟩).map MFn.cells := by
    rw [List.set_set, List.map_set]; rfl
  rw [hlist] at hf4
  have hkeep : ∀ b, b ≠ g → b < wr.heap.size → ((w2.setCell ⟨g, k * 4 + 2, none⟩ (.slice ca x.code.length cc)).setCell ⟨g, k * 4 + 3, none⟩ (.slice sa x.sels.length sc)).heap[b]? = wr.heap[b]? := fun b hb hlt =>
    (heap_setCell_other _ _ _ _ hb).trans ((heap_setCell_other _ _ _ _ hb).trans ((heap_next e2 b2 (by omega)).trans (heap_next e1 b1 hlt)))
  have hoth : ∀ {e k' : Nat} {a : Option Addr} {cap : Nat} {L : List (List Value)} {lo : Nat}, OwnL w2 lo e k' a cap L → 35 ≠ e → OwnL ((w2.setCell ⟨g, k * 4 + 2, none⟩ (.slice ca x.code.length cc)).setCell ⟨g, k * 4 + 3, none⟩ (.slice sa x.sels.length sc)) lo e k' a cap L := fun h hne =>
    own_other (own_other h (own_apart hf2 h hne hgb) _ _) (own_apart hf2 h hne hgb) _ _
  have hbe2 : Below w.heap.size w w2 := below_heap (below_heap st.be (by omega) e1 a1 b1) (by omega) e2 a2 b2
  refine ⟨(hbe2.setCell (by show w.heap.size ≤ g; omega) _).setCell (by show w.heap.size ≤ g; omega) _, ?_, (hkeep _ (by omega) hB1).trans st.b1, st.ev, st.el, st.ec, by simpa using st.fl, hx, get_set_self _ k x _ hNk, fun i hi => (get_set_ne _ k i _ (by omega)).trans (st.od i (by omega)), ?_, ?_, hoth (own_next (own_next st.ov e1 b1) e2 b2) (by decide), hoth (own_next (own_next st.oc e1 b1) e2 b2) (by decide), by rw [hg]; exact hf4, rfl, rfl, rfl, ?_, ?_, ?_, rfl, fun _ _ => rfl, fun i s t hi => by omega⟩
  · rw [objP_set]; exact (hkeep _ (by omega) hB0).trans st.b0
  · intro i a b hi ha hb
    have hb' : N.fns[i]? = some b := by rw [← hb]; exact (get_set_ne _ k i _ (by omega)).symm
    obtain ⟨h1, h2⟩ := st.nw i a b hi ha hb'
    exact ⟨h1, fn_own_F (fn_own_F (fn_own_next (fn_own_next h2 e1 b1) e2 b2) hf2 _ _) hf3 _ _⟩
  · intro i b hi hb
    have hb' : N.fns[i]? = some b := by rw [← hb]; exact (get_set_ne _ k i _ (by omega)).symm
    obtain ⟨a, ha, _⟩ := get_lt M.fns i (by have := (List.getElem?_eq_some_iff.mp hb').1; have := st.fl; omega)
    exact fun c hc => (blk_lt (st.nw i a b hi ha hb').2.2.1 c hc).2
  · exact hoth (own_mono (own_next o1 e2 b2) (by rw [e1]; omega)) (by decide)
  · exact hoth (own_mono o2 (by rw [e2]; omega)) (by decide)
  · intro b hb
    have := (blk_lt o2 b hb).1
    rw [e2] at this
    omega
theorem jst_step {x y : MFn} {q hk : Nat} (st : JSt M w k N x q y hk wr) {z : MSel} (hz : x.sels[q]? = some z) {h : Nat} (hh : y.sa = some ⟨h, 0, none⟩)
    {x1 w1 : World} (e1 : x1.heap = wr.heap) (a1 : Below 0 wr x1) (b1 : Below x1.heap.size x1 w1) {ta : Option Addr} {tc : Nat} (o1 : OwnL w1 x1.heap.size 51 4 ta tc (z.cases.map Cas.cells)) :
    ∃ y', y'.sa = y.sa ∧ y'.sels.length = y.sels.length ∧ y'.scap = y.scap ∧ JSt M w k { N with fns := N.fns.set k y' } x (q + 1) y' hk (w1.setCell ⟨h, q * 2, none⟩ (.slice ta z.cases.length tc)) := by
  have hyq : y.sels[q]? = some z := (st.so q (Nat.le_refl _)).trans hz
  have hos := st.os
  rw [hh] at hos
  have hhb : h ∈ blk (some (⟨h, 0, none⟩ : Addr)) := by simp [blk]
  have hhl := blk_lt hos h hhb
  have hhk : hk ≤ h := st.hs h (by rw [hh]; exact hhb)
  have hz1 : wr.heap.size ≤ w1.heap.size := by have := b1.size; rw [e1] at this; exact this
  have hwz := st.be.size
  have hB0 : w.heap.size < wr.heap.size := (Array.getElem?_eq_some_iff.mp st.b0).1
  have hB1 : w.heap.size + 1 < wr.heap.size := (Array.getElem?_eq_some_iff.mp st.b1).1
  have hs2 : OwnL w1 (w.heap.size + 2) 39 2 (some ⟨h, 0, none⟩) y.scap (y.sels.map MSel.cells) := own_next hos e1 b1
  have hs3 := own_put hs2 (len2s _) q z.cells (by simp [hyq]) 0 (by omega) (.slice ta z.cases.length tc)
  rw [Nat.add_zero] at hs3
  have hlist : (y.sels.map MSel.cells).set q (z.cells.set 0 (.slice ta z.cases.length tc)) = (y.sels.set q ⟨ta, tc, z.cases, z.els⟩).map MSel.cells := by rw [List.map_set]; rfl
  rw [hlist] at hs3
  have hkeep : ∀ b, b ≠ h → b < wr.heap.size → (w1.setCell ⟨h, q * 2, none⟩ (.slice ta z.cases.length tc)).heap[b]? = wr.heap[b]? := fun b hb hlt => (heap_setCell_other _ _ _ _ hb).trans (heap_next e1 b1 hlt)
  have hoth : ∀ {e k' : Nat} {a : Option Addr} {cap : Nat} {L : List (List Value)} {lo : Nat}, OwnL w1 lo e k' a cap L → 39 ≠ e → OwnL (w1.setCell ⟨h, q * 2, none⟩ (.slice ta z.cases.length tc)) lo e k' a cap L := fun hO hne =>
    own_other hO (own_apart hs2 hO hne hhb) _ _
  have hbe1 : Below w.heap.size w w1 := below_heap st.be (by omega) e1 a1 b1
  have hcells : MFn.cells { y with sels := y.sels.set q ⟨ta, tc, z.cases, z.els⟩ } = y.cells := by simp [MFn.cells]
  have hmap : (N.fns.set k { y with sels := y.sels.set q ⟨ta, tc, z.cases, z.els⟩ }).map MFn.cells = N.fns.map MFn.cells := by
    rw [List.map_set, hcells]
    exact list_same _ _ _ (by simp [st.yk])
  refine ⟨{ y with sels := y.sels.set q ⟨ta, tc, z.cases, z.els⟩ }, rfl, by simp, rfl, hbe1.setCell (by show w.heap.size ≤ h; omega) _, ?_, (hkeep _ (by omega) hB1).trans st.b1, st.ev, st.el, st.ec, by simpa using st.fl, st.xk, get_set_self _ k y _ st.yk, fun i hi => (get_set_ne _ k i _ (by omega)).trans (st.od i hi), ?_, ?_, hoth (own_next st.ov e1 b1) (by decide), hoth (own_next st.oc e1 b1) (by decide), ?_, st.yp, st.yr, st.yc, hoth (own_next st.oy e1 b1) (by decide), ?_, st.hs, by simpa using st.sl, fun i hi => (get_set_ne _ q i _ (by omega)).trans (st.so i (by omega)), ?_⟩
  · rw [objP_set]; exact (hkeep _ (by omega) hB0).trans st.b0
  · intro i a b hi ha hb
    have hb' : N.fns[i]? = some b := by rw [← hb]; exact (get_set_ne _ k i _ (by omega)).symm
    obtain ⟨h1, h2⟩ := st.nw i a b hi ha hb'
    have h3 := fn_own_next h2 e1 b1
    refine ⟨h1, hoth h3.1 (by decide), own_other h3.2.1 (fun hm => ?_) _ _, fun s hs => hoth (h3.2.2 s hs) (by decide)⟩
    have := st.nb i b hi hb' h hm
    omega
  · intro i b hi hb
    exact st.nb i b hi (by rw [← hb]; exact (get_set_ne _ k i _ (by omega)).symm)
  · show OwnL _ _ _ _ N.fa N.fcap ((N.fns.set k { y with sels := y.sels.set q ⟨ta, tc, z.cases, z.els⟩ }).map MFn.cells)
    rw [hmap]; exact hoth (own_next st.of e1 b1) (by decide)
  · show OwnL _ _ _ _ y.sa y.scap _
    rw [hh]; exact hs3
  · intro i s t hi hs ht
    by_cases hiq : i = q
    · subst hiq
      have ht' : t = ⟨ta, tc, z.cases, z.els⟩ := by
        have := get_set_self y.sels i z ⟨ta, tc, z.cases, z.els⟩ hyq
        exact Option.some.inj (ht.symm.trans this)
      have hs' : s = z := Option.some.inj (hs.symm.trans hz)
      subst ht'
      subst hs'
      exact ⟨rfl, hoth (own_mono o1 (by rw [e1]; omega)) (by decide)⟩
    · have ht' : y.sels[i]? = some t := by rw [← ht]; exact (get_set_ne _ q i _ (by omega)).symm
      obtain ⟨h1, h2⟩ := st.sn i s t (by omega) hs ht'
      exact ⟨h1, hoth (own_next h2 e1 b1) (by decide)⟩
theorem jst_end {x y : MFn} {hk : Nat} (st : JSt M w k N x x.sels.length y hk wr) : KSt M w (k + 1) N wr := by
  refine ⟨st.be, st.b0, st.b1, st.ev, st.el, st.ec, st.fl, fun i hi => st.od i (by omega), fun i a b hi ha hb => ?_, st.ov, st.oc, st.of⟩
  by_cases hik : i = k
  · subst hik
    have h1 : a = x := Option.some.inj (ha.symm.trans st.xk)
    have h2 : b = y := Option.some.inj (hb.symm.trans st.yk)
    subst h1
    subst h2
    have hsel : b.sels.map MSel.sel = a.sels.map MSel.sel := by
      apply List.ext_getElem?
      intro j
      by_cases hj : j < a.sels.length
      · obtain ⟨s, hs, _⟩ := get_lt a.sels j hj
        obtain ⟨t, ht, _⟩ := get_lt b.sels j (by have := st.sl; omega)
        simp [hs, ht, (st.sn j s t hj hs ht).1]
      · rw [List.getElem?_eq_none (by rw [List.length_map]; have := st.sl; omega), List.getElem?_eq_none (by rw [List.length_map]; omega)]
    refine ⟨?_, st.oy, st.os, fun t ht => ?_⟩
    · show (⟨b.params, b.regs, b.code, b.sels.map MSel.sel⟩ : Fn) = ⟨a.params, a.regs, a.code, a.sels.map MSel.sel⟩
      rw [st.yp, st.yr, st.yc, hsel]
    · obtain ⟨j, hj, rfl⟩ := List.getElem_of_mem ht
      obtain ⟨s, hs, _⟩ := get_lt a.sels j (by have := st.sl; omega)
      exact (st.sn j s _ (by have := st.sl; omega) hs (List.getElem?_eq_getElem hj)).2
  · exact st.nw i a b (by omega) ha hb
theorem kst_end (st : KSt M w M.fns.length N wr) : N.fns.map MFn.fn = M.fns.map MFn.fn ∧ N.own wr w.heap.size := by
  have hfn : ∀ (j : Nat) (f : MFn), N.fns[j]? = some f → ∃ x : MFn, M.fns[j]? = some x ∧ f.fn = x.fn ∧ f.own wr (w.heap.size + 2) := fun j f hf => by
    have hj : j < M.fns.length := by have := (List.getElem?_eq_some_iff.mp hf).1; have := st.fl; omega
    obtain ⟨x, hx, _⟩ := get_lt M.fns j hj
    obtain ⟨h1, h2⟩ := st.nw j x f hj hx hf
    exact ⟨x, hx, h1, h2⟩
  refine ⟨?_, own_mono st.ov (by omega), own_mono st.oc (by omega), own_mono st.of (by omega), fun f hf => ?_⟩
  · apply List.ext_getElem?
    intro j
    by_cases hj : j < N.fns.length
    · obtain ⟨f, hf, _⟩ := get_lt N.fns j hj
      obtain ⟨x, hx, h1, _⟩ := hfn j f hf
      simp [hf, hx, h1]
    · rw [List.getElem?_eq_none (by rw [List.length_map]; omega), List.getElem?_eq_none (by rw [List.length_map]; have := st.fl; omega)]
  · obtain ⟨j, hj, rfl⟩ := List.getElem_of_mem hf
    obtain ⟨x, _, _, ho⟩ := hfn j _ (List.getElem?_eq_getElem hj)
    exact ⟨own_mono ho.1 (by omega), own_mono ho.2.1 (by omega), fun s hs => own_mono (ho.2.2 s hs) (by omega)⟩
theorem kst_own (st : KSt M w M.fns.length N wr) : N.own wr (w.heap.size + 2) := by
  refine ⟨st.ov, st.oc, st.of, fun f hf => ?_⟩
  obtain ⟨j, hj, rfl⟩ := List.getElem_of_mem hf
  have hjM : j < M.fns.length := by have := st.fl; omega
  obtain ⟨x, hx, _⟩ := get_lt M.fns j hjM
  exact (st.nw j x _ hjM hx (List.getElem?_eq_getElem hj)).2
theorem own_low {lo lo' : Nat} {p : MPr} (h : p.own wr lo) (hl : lo' ≤ lo) : p.own wr lo' :=
  ⟨own_mono h.1 hl, own_mono h.2.1 hl, own_mono h.2.2.1 hl, fun f hf => ⟨own_mono (h.2.2.2 f hf).1 hl, own_mono (h.2.2.2 f hf).2.1 hl, fun s hs => own_mono ((h.2.2.2 f hf).2.2 s hs) hl⟩⟩
theorem kst_fin (st : KSt M w M.fns.length N wr) {wf : World} (hk : ∀ b, b ≠ w.heap.size + 1 → wf.heap[b]? = wr.heap[b]?) : N.own wf w.heap.size := by
  have h := kst_own st
  exact own_low (h.keep fun b hb => hk b (by have := (own_lt h b hb).1; omega)) (by omega)
/-- The row of a function, of a select, and that it may be written. -/
theorem kst_row (hof : OwnL wr (w.heap.size + 2) 35 4 N.fa N.fcap (N.fns.map MFn.cells)) {x : MFn} (hx : N.fns[k]? = some x) : ∃ g, N.fa = some ⟨g, 0, none⟩ ∧ g < wr.heap.size ∧ wr.cell? ⟨g, k * 4, none⟩ = some (.int .i64 x.params) ∧ wr.cell? ⟨g, k * 4 + 1, none⟩ = some (.int .i64 x.regs) ∧ wr.cell? ⟨g, k * 4 + 2, none⟩ = some (.slice x.ca x.code.length x.ccap) ∧ wr.cell? ⟨g, k * 4 + 3, none⟩ = some (.slice x.sa x.sels.length x.scap) ∧ ∀ o, wr.frozen? ⟨g, o, none⟩ = false := by
  rcases own_block hof with ⟨_, h0, _⟩ | ⟨g, hg, _, hgl⟩
  · rw [List.length_map] at h0
    have := (List.getElem?_eq_some_iff.mp hx).1
    omega
  · obtain ⟨b, off, ha, _, c0, c1, c2, c3⟩ := fn_at (own_rows hof (len4f _)) k x hx
    rw [hg] at ha
    simp only [Option.some.injEq, Addr.mk.injEq] at ha
    obtain ⟨rfl, rfl, _⟩ := ha
    simp only [Nat.zero_add] at c0 c1 c2 c3
    obtain ⟨cur, ht, _⟩ := own_tag hof (g := g) (by rw [hg]; simp [blk])
    exact ⟨g, hg, hgl, c0, c1, c2, c3, fun o => whole_frozen ht o⟩
theorem sel_row {y : MFn} (hos : OwnL wr (w.heap.size + 2) 39 2 y.sa y.scap (y.sels.map MSel.cells)) {q : Nat} {z : MSel} (hz : y.sels[q]? = some z) : ∃ h, y.sa = some ⟨h, 0, none⟩ ∧ h < wr.heap.size ∧ wr.cell? ⟨h, q * 2, none⟩ = some (.slice z.at_ z.cases.length z.cap) ∧ wr.cell? ⟨h, q * 2 + 1, none⟩ = some (.int .i64 z.els) ∧ ∀ o, wr.frozen? ⟨h, o, none⟩ = false := by
  rcases own_block hos with ⟨_, h0, _⟩ | ⟨g, hg, _, hgl⟩
  · rw [List.length_map] at h0
    have := (List.getElem?_eq_some_iff.mp hz).1
    omega
  · obtain ⟨b, off, ha, _, c0, c1⟩ := sel_at (own_rows hos (len2s _)) q z hz
    rw [hg] at ha
    simp only [Option.some.injEq, Addr.mk.injEq] at ha
    obtain ⟨rfl, rfl, _⟩ := ha
    simp only [Nat.zero_add] at c0 c1
    obtain ⟨cur, ht, _⟩ := own_tag hos (g := g) (by rw [hg]; simp [blk])
    exact ⟨g, hg, hgl, c0, c1, fun o => whole_frozen ht o⟩
theorem kst_start {W : World} (hb : Below w.heap.size w W) (hbo : W.heap[w.heap.size]? = some (objP M)) (hbo2 : W.heap[w.heap.size + 1]? = some objN)
    {x1 x2 x3 w1 w2 w3 : World} (e1 : x1.heap = W.heap) (a1 : Below 0 W x1) (b1 : Below x1.heap.size x1 w1) {va : Option Addr} {vc : Nat} (o1 : OwnL w1 x1.heap.size 31 2 va vc (M.vars.map Vr.cells))
    (e2 : x2.heap = w1.heap) (a2 : Below 0 w1 x2) (b2 : Below x2.heap.size x2 w2) {ha : Option Addr} {hc : Nat} (o2 : OwnL w2 x2.heap.size 3 1 ha hc (M.chans.map chCells))
    (e3 : x3.heap = w2.heap) (a3 : Below 0 w2 x3) (b3 : Below x3.heap.size x3 w3) {fa : Option Addr} {fc : Nat} (o3 : OwnL w3 x3.heap.size 35 4 fa fc (M.fns.map MFn.cells)) :
    KSt M w 0 ⟨va, vc, M.vars, M.locks, ha, hc, M.chans, fa, fc, M.fns⟩ (((w3.setCell ⟨w.heap.size, 0, none⟩ (.slice va M.vars.length vc)).setCell ⟨w.heap.size, 2, none⟩ (.slice ha M.chans.length hc)).setCell ⟨w.heap.size, 3, none⟩ (.slice fa M.fns.length fc)) := by
  have hB0 : w.heap.size < W.heap.size := (Array.getElem?_eq_some_iff.mp hbo).1
  have hB1 : w.heap.size + 1 < W.heap.size := (Array.getElem?_eq_some_iff.mp hbo2).1
  have hz1 : W.heap.size ≤ w1.heap.size := by have := b1.size; rw [e1] at this; exact this
  have hz2 : w1.heap.size ≤ w2.heap.size := by have := b2.size; rw [e2] at this; exact this
  have hz3 : w2.heap.size ≤ w3.heap.size := by have := b3.size; rw [e3] at this; exact this
  have hk3 : ∀ b, b < W.heap.size → w3.heap[b]? = W.heap[b]? := fun b hb => (heap_next e3 b3 (by omega)).trans ((heap_next e2 b2 (by omega)).trans (heap_next e1 b1 hb))
  have hoth : ∀ {e k' : Nat} {a : Option Addr} {cap : Nat} {L : List (List Value)} {lo : Nat}, OwnL w3 lo e k' a cap L → W.heap.size ≤ lo → OwnL (((w3.setCell ⟨w.heap.size, 0, none⟩ (.slice va M.vars.length vc)).setCell ⟨w.heap.size, 2, none⟩ (.slice ha M.chans.length hc)).setCell ⟨w.heap.size, 3, none⟩ (.slice fa M.fns.length fc)) (w.heap.size + 2) e k' a cap L := fun h hlo => by
    have hn : ∀ b ∈ blk _, b ≠ w.heap.size := fun b hb => by have := (blk_lt h b hb).1; omega
    exact own_mono (own_keep h fun b hb => (heap_setCell_other _ _ _ _ (hn b hb)).trans ((heap_setCell_other _ _ _ _ (hn b hb)).trans (heap_setCell_other _ _ _ _ (hn b hb)))) (by omega)
  have hbe3 : Below w.heap.size w w3 := below_heap (below_heap (below_heap hb (by omega) e1 a1 b1) (by omega) e2 a2 b2) (by omega) e3 a3 b3
  refine ⟨((hbe3.setCell (Nat.le_refl _) _).setCell (Nat.le_refl _) _).setCell (Nat.le_refl _) _, ?_, ?_, rfl, rfl, rfl, rfl, fun _ _ => rfl, fun i x y hi => by omega, hoth (own_next (own_next o1 e2 b2) e3 b3) (by rw [e1]; omega), hoth (own_next o2 e3 b3) (by rw [e2]; omega), hoth o3 (by rw [e3]; omega)⟩
  · have h0 := set4 w3 w.heap.size 0 _ _ (.slice va M.vars.length vc) ((hk3 _ hB0).trans hbo)
    have h2 := set4 _ w.heap.size 2 _ _ (.slice ha M.chans.length hc) h0
    have h3 := set4 _ w.heap.size 3 _ _ (.slice fa M.fns.length fc) h2
    rw [h3]
    simp
  · exact (heap_setCell_other _ _ _ _ (by show w.heap.size + 1 ≠ w.heap.size; omega)).trans ((heap_setCell_other _ _ _ _ (by show w.heap.size + 1 ≠ w.heap.size; omega)).trans ((heap_setCell_other _ _ _ _ (by show w.heap.size + 1 ≠ w.heap.size; omega)).trans ((hk3 _ hB1).trans hbo2)))
end
end Go.Proofs.Ytaghfahhfockkaa.pg
