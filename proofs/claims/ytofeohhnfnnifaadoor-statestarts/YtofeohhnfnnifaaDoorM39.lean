/- The states that the making of a copy goes through. -/
import Derived.Test.YtofeohhnfnnifaaDoorM38
namespace Go.Proofs.YtofeohhnfnnifaaDoor.pg
open Go.ChangeShapes Go.WideShapes Go.ChangeAt Go.RowKit
set_option linter.unusedVariables false
set_option linter.unusedSimpArgs false
/-- N is M, in memory of its own. -/
def Copied (M N : MPr) (w : World) (lo : Nat) : Prop := N.vars = M.vars ∧ N.locks = M.locks ∧ N.chans = M.chans ∧ N.fns.map MFn.fn = M.fns.map MFn.fn ∧ N.own w lo ∧ N.blocks.Nodup
theorem le2 (n : Nat) : n ≤ n + 1 + 1 := by omega
theorem ne2 (n : Nat) : n ≠ n + 1 + 1 := by omega
theorem ne1 (n : Nat) : n + 1 ≠ n + 1 + 1 := by omega
abbrev objO (va : Option Addr) (vn vc : Nat) (k : Int) (ha : Option Addr) (hn hc : Nat) (fa : Option Addr) (fn fc : Nat) : Obj := .cells #[.slice va vn vc, .int .i64 k, .slice ha hn hc, .slice fa fn fc] 26
abbrev objN : Obj := objO none 0 0 0 none 0 0 none 0 0
abbrev objGg (x : MFn) : Obj := .cells #[.int .i64 x.params, .int .i64 x.regs, .slice none 0 0, .slice none 0 0] 58
abbrev objT (y : MSel) : Obj := .cells #[.slice none 0 0, .int .i64 y.els] 61
theorem set4 (w : World) (b i : Nat) (cs : Array Value) (t : TypeId) (v : Value) (h : w.heap[b]? = some (.cells cs t (0, 0))) : (w.setCell ⟨b, i, none⟩ v).heap[b]? = some (.cells (cs.setIfInBounds i v) t (0, 0)) := heap_setCell_same w b i cs t v h
theorem below_keep {B : Nat} {a w w' : World} (h : Below B a w) (hB : B ≤ w.heap.size) (k : Below (min B w.heap.size) w w') : Below B a w' := h.trans (k.mono (by omega))
structure OSt (M : MPr) (w : World) (k : Nat) (N : MPr) (wr : World) : Prop where
  be : Below w.heap.size w wr
  b0 : wr.heap[w.heap.size]? = some (objP M)
  b1 : wr.heap[w.heap.size + 1]? = some objN
  b2 : wr.heap[w.heap.size + 1 + 1]? = some (objP N)
  ev : N.vars = M.vars
  el : N.locks = M.locks
  ec : N.chans = M.chans
  ef : N.fns.map MFn.fn = (M.fns.take k).map MFn.fn
  ow : N.own wr w.heap.size
  nd : N.blocks.Nodup
  bd : ∀ b ∈ N.blocks, w.heap.size + 3 ≤ b ∧ b < wr.heap.size
structure ISt (M : MPr) (w : World) (k : Nat) (N : MPr) (x : MFn) (F q : Nat) (g : MFn) (wr : World) : Prop where
  o : OSt M w k N wr
  hN : ∀ b ∈ N.blocks, b < F
  lo : w.heap.size + 3 ≤ F
  hi : F + 1 < wr.heap.size
  bf : wr.heap[F]? = some (objF x)
  bg : wr.heap[F + 1]? = some (objF g)
  ep : g.params = x.params
  er : g.regs = x.regs
  ec : g.code = x.code
  es : g.sels.map MSel.sel = (x.sels.take q).map MSel.sel
  ow : g.own wr w.heap.size
  nd : g.blocks.Nodup
  bd : ∀ b ∈ g.blocks, F + 1 < b ∧ b < wr.heap.size
/-- Behind anything that leaves all these blocks as they were. -/
theorem OSt.keep {M : MPr} {w : World} {k : Nat} {N : MPr} {wr w' : World} (st : OSt M w k N wr) (hbe : Below w.heap.size w w') (hsz : wr.heap.size ≤ w'.heap.size) (h3 : w.heap.size + 1 + 1 < wr.heap.size) (hk : ∀ b, b < wr.heap.size → (b ∈ N.blocks ∨ b < w.heap.size + 3) → w'.heap[b]? = wr.heap[b]?) : OSt M w k N w' :=
  ⟨hbe, (hk _ (by omega) (.inr (by omega))).trans st.b0, (hk _ (by omega) (.inr (by omega))).trans st.b1, (hk _ (by omega) (.inr (by omega))).trans st.b2, st.ev, st.el, st.ec, st.ef, st.ow.keep fun g hg => hk g (st.bd g hg).2 (.inl hg), st.nd, fun b hb => ⟨(st.bd b hb).1, Nat.lt_of_lt_of_le (st.bd b hb).2 hsz⟩⟩
theorem OSt.three {M : MPr} {w : World} {k : Nat} {N : MPr} {wr : World} (st : OSt M w k N wr) : w.heap.size + 1 + 1 < wr.heap.size := (Array.getElem?_eq_some_iff.mp st.b2).1
theorem two_size (wr : World) (o1 o2 : Obj) : ((wr.alloc o1).alloc o2).heap.size = wr.heap.size + 1 + 1 := by rw [World.size_alloc, World.size_alloc]
theorem two_first (wr : World) (o1 o2 : Obj) : ((wr.alloc o1).alloc o2).heap[wr.heap.size]? = some o1 := ((boxed (wr.alloc o1) o2).block _ (by rw [World.size_alloc]; omega)).trans (heap_alloc_new wr o1)
theorem two_second (wr : World) (o1 o2 : Obj) : ((wr.alloc o1).alloc o2).heap[wr.heap.size + 1]? = some o2 := by
  have := heap_alloc_new (wr.alloc o1) o2
  rwa [World.size_alloc] at this
theorem two_old (wr : World) (o1 o2 : Obj) (b : Nat) (h : b < wr.heap.size) : ((wr.alloc o1).alloc o2).heap[b]? = wr.heap[b]? := (boxed2 wr o1 o2).block b h
/-- A function's copy begun: its code is laid. -/
theorem ISt.start {M : MPr} {w : World} {k : Nat} {N : MPr} {wr : World} {x : MFn} {ca : Option Addr} {cc : Nat} {w1 : World} (st : OSt M w k N wr)
    (ho : OwnL w1 w.heap.size 74 5 ca cc (x.code.map Ins.cells)) (hk : ∀ b, b < ((wr.alloc (objF x)).alloc (objGg x)).heap.size → b ∉ blk none → w1.heap[b]? = ((wr.alloc (objF x)).alloc (objGg x)).heap[b]?)
    (hB : Below (min w.heap.size ((wr.alloc (objF x)).alloc (objGg x)).heap.size) ((wr.alloc (objF x)).alloc (objGg x)) w1) (hbl : blk ca = blk none ∨ blk ca = [((wr.alloc (objF x)).alloc (objGg x)).heap.size]) :
    ISt M w k N x wr.heap.size 0 ⟨x.params, x.regs, ca, cc, x.code, none, 0, []⟩ (w1.setCell ⟨wr.heap.size + 1, 2, none⟩ (.slice ca x.code.length cc)) := by
  have h3 := st.three
  have hz := two_size wr (objF x) (objGg x)
  have hs1 : wr.heap.size + 1 + 1 ≤ w1.heap.size := by have := hB.size; rw [hz] at this; exact this
  have hbe : Below w.heap.size w w1 := below_keep (bthen st.be (boxed2 wr _ _)) (by rw [hz]; have := st.be.size; omega) hB
  have hk' : ∀ b, b < wr.heap.size → w1.heap[b]? = wr.heap[b]? := fun b hb => (hk b (by rw [hz]; omega) (by simp [blk])).trans (two_old wr _ _ b hb)
  have hf : w1.heap[wr.heap.size]? = some (objF x) := (hk _ (by rw [hz]; omega) (by simp [blk])).trans (two_first wr _ _)
  have hg : w1.heap[wr.heap.size + 1]? = some (objGg x) := (hk _ (by rw [hz]; omega) (by simp [blk])).trans (two_second wr _ _)
  have hsz : (w1.setCell ⟨wr.heap.size + 1, 2, none⟩ (.slice ca x.code.length cc)).heap.size = w1.heap.size := World.size_setCell _ _ _
  have hoth : ∀ b, b ≠ wr.heap.size + 1 → (w1.setCell ⟨wr.heap.size + 1, 2, none⟩ (.slice ca x.code.length cc)).heap[b]? = w1.heap[b]? := fun b hb => heap_setCell_other _ _ _ _ hb
  have hcb : ∀ b ∈ blk ca, wr.heap.size + 1 < b ∧ b < w1.heap.size := fun b hb => by
    have h1 := (blk_lt ho b hb).2
    rcases hbl with q | q
    · rw [q] at hb; simp [blk] at hb
    · rw [q, hz] at hb; simp at hb; omega
  refine ⟨st.keep (hbe.setCell (by show w.heap.size ≤ wr.heap.size + 1; omega) _) (by rw [hsz]; omega) h3 (fun b hb _ => (hoth b (by omega)).trans (hk' b hb)), fun b hb => (st.bd b hb).2, by omega, by rw [hsz]; omega, (hoth _ (by omega)).trans hf, set4 _ _ _ _ _ _ hg, rfl, rfl, rfl, by simp, ⟨own_keep ho (fun b hb => hoth b (by have := hcb b hb; omega)), own_nil _ _ _ _, by simp⟩, ?_, fun b hb => ?_⟩
  · simp only [MFn.blocks, MFn.rest, blk, List.flatMap_nil, List.append_nil, List.nil_append]
    cases ca <;> simp
  · have : b ∈ blk ca := by simpa [MFn.blocks, MFn.rest, blk] using hb
    rw [hsz]
    exact hcb b this
end Go.Proofs.YtofeohhnfnnifaaDoor.pg
/- A select is copied, and a function. -/
namespace Go.Proofs.YtofeohhnfnnifaaDoor.pg
open Go.ChangeShapes Go.WideShapes Go.ChangeAt Go.RowKit
set_option linter.unusedVariables false
set_option linter.unusedSimpArgs false
theorem nodup_app {l m : List Nat} (h1 : l.Nodup) (h2 : m.Nodup) (h : ∀ b ∈ l, b ∉ m) : (l ++ m).Nodup := List.nodup_append.mpr ⟨h1, h2, fun a ha b hb e => h a ha (e ▸ hb)⟩
theorem nodup_out {l m : List Nat} (h : (l ++ m).Nodup) : l.Nodup ∧ m.Nodup ∧ ∀ b ∈ m, b ∉ l := ⟨(List.nodup_append.mp h).1, (List.nodup_append.mp h).2.1, fun b hb hl => (List.nodup_append.mp h).2.2 b hl b hb rfl⟩
theorem blk_nodup (a : Option Addr) : (blk a).Nodup := by cases a <;> simp [blk]
theorem ISt.step {M : MPr} {w : World} {k : Nat} {N : MPr} {x : MFn} {F q : Nat} {g : MFn} {wr : World} (st : ISt M w k N x F q g wr) {y : MSel} (hy : x.sels[q]? = some y)
    {ca : Option Addr} {cc : Nat} {w1 : World}
    (ho1 : OwnL w1 w.heap.size 90 4 ca cc (y.cases.map Cas.cells)) (hk1 : ∀ b, b < ((wr.alloc (objS y)).alloc (objT y)).heap.size → b ∉ blk none → w1.heap[b]? = ((wr.alloc (objS y)).alloc (objT y)).heap[b]?)
    (hB1 : Below (min w.heap.size ((wr.alloc (objS y)).alloc (objT y)).heap.size) ((wr.alloc (objS y)).alloc (objT y)) w1) (hbl1 : blk ca = blk none ∨ blk ca = [((wr.alloc (objS y)).alloc (objT y)).heap.size])
    {wm : World} (hm : wm = (w1.setCell ⟨wr.heap.size + 1, 0, none⟩ (.slice ca y.cases.length cc)).alloc (objS ⟨ca, cc, y.cases, y.els⟩))
    {va : Option Addr} {vc : Nat} {w2 : World}
    (ho2 : OwnL w2 w.heap.size 61 2 va vc (g.sels.map MSel.cells ++ [MSel.cells ⟨ca, cc, y.cases, y.els⟩])) (hk2 : ∀ b, b < wm.heap.size → b ∉ blk g.sa → w2.heap[b]? = wm.heap[b]?)
    (hB2 : Below (min w.heap.size wm.heap.size) wm w2) (hbl2 : blk va = blk g.sa ∨ blk va = [wm.heap.size]) :
    ISt M w k N x F (q + 1) { g with sa := va, scap := vc, sels := g.sels ++ [⟨ca, cc, y.cases, y.els⟩] } (w2.setCell ⟨F + 1, 3, none⟩ (.slice va (g.sels.length + 1) vc)) := by
  have h3 := st.o.three
  have hhi := st.hi
  have hlo := st.lo
  have hz := two_size wr (objS y) (objT y)
  have hs1 : wr.heap.size + 1 + 1 ≤ w1.heap.size := by have := hB1.size; rw [hz] at this; exact this
  have hzm : wm.heap.size = w1.heap.size + 1 := by rw [hm, World.size_alloc, World.size_setCell]
  have hs2 : w1.heap.size + 1 ≤ w2.heap.size := by have := hB2.size; rw [hzm] at this; exact this
  have hbe1 : Below w.heap.size w w1 := below_keep (bthen st.o.be (boxed2 wr _ _)) (by rw [hz]; have := st.o.be.size; omega) hB1
  have hbem : Below w.heap.size w wm := by
    rw [hm]
    exact bthen (hbe1.setCell (by show w.heap.size ≤ wr.heap.size + 1; omega) _) (boxed _ _)
  have hbe2 : Below w.heap.size w w2 := below_keep hbem (by omega) hB2
  have k1 : ∀ b, b < wr.heap.size → w1.heap[b]? = wr.heap[b]? := fun b hb => (hk1 b (by rw [hz]; omega) (by simp [blk])).trans (two_old wr _ _ b hb)
  have km : ∀ b, b < w1.heap.size → b ≠ wr.heap.size + 1 → wm.heap[b]? = w1.heap[b]? := fun b hb hne => by
    rw [hm]
    exact ((boxed _ _).block b (by rw [World.size_setCell]; exact hb)).trans (heap_setCell_other _ _ _ _ hne)
  have kf : ∀ b, b ≠ F + 1 → (w2.setCell ⟨F + 1, 3, none⟩ (.slice va (g.sels.length + 1) vc)).heap[b]? = w2.heap[b]? := fun b hb => heap_setCell_other _ _ _ _ hb
  have hszf : (w2.setCell ⟨F + 1, 3, none⟩ (.slice va (g.sels.length + 1) vc)).heap.size = w2.heap.size := World.size_setCell _ _ _
  have k2 : ∀ b, b < wr.heap.size → b ∉ blk g.sa → w2.heap[b]? = wr.heap[b]? := fun b hb hn => (hk2 b (by omega) hn).trans ((km b (by omega) (by omega)).trans (k1 b hb))
  have hsa : ∀ b ∈ blk g.sa, F + 1 < b ∧ b < wr.heap.size := fun b hb => st.bd b (by simp [MFn.blocks, hb])
  have hrest : ∀ b ∈ g.rest, F + 1 < b ∧ b < wr.heap.size := fun b hb => st.bd b (by simp [MFn.blocks, hb])
  obtain ⟨_, n2, n3⟩ := nodup_out st.nd
  have kr : ∀ b ∈ g.rest, (w2.setCell ⟨F + 1, 3, none⟩ (.slice va (g.sels.length + 1) vc)).heap[b]? = wr.heap[b]? := fun b hb => (kf b (by have := hrest b hb; omega)).trans (k2 b (hrest b hb).2 (n3 b hb))
  have hcb : ∀ b ∈ blk ca, wr.heap.size + 1 < b ∧ b < w1.heap.size := fun b hb => by
    have h1 := (blk_lt ho1 b hb).2
    rcases hbl1 with q | q
    · rw [q] at hb; simp [blk] at hb
    · rw [q, hz] at hb; simp at hb; omega
  have hvb : ∀ b ∈ blk va, (b ∈ blk g.sa ∨ b = wm.heap.size) ∧ b < w2.heap.size := fun b hb => by
    refine ⟨?_, (blk_lt ho2 b hb).2⟩
    rcases hbl2 with q | q
    · rw [q] at hb; exact .inl hb
    · rw [q] at hb; simp at hb; exact .inr hb
  have hblocks : MFn.blocks { g with sa := va, scap := vc, sels := g.sels ++ [⟨ca, cc, y.cases, y.els⟩] } = blk va ++ (g.rest ++ blk ca) := by
    simp [MFn.blocks, MFn.rest, List.flatMap_append]
  have hg : w2.heap[F + 1]? = some (objF g) := (k2 _ (by omega) (fun hh => by have := hsa _ hh; omega)).trans st.bg
  have hnew : w2.heap.size = w2.heap.size := rfl
  have hkca : ∀ b ∈ blk ca, (w2.setCell ⟨F + 1, 3, none⟩ (.slice va (g.sels.length + 1) vc)).heap[b]? = w1.heap[b]? := fun b hb => by
    have hc := hcb b hb
    exact (kf b (by omega)).trans ((hk2 b (by omega) (fun hh => by have := hsa b hh; omega)).trans (km b hc.2 (by omega)))
  refine ⟨st.o.keep (hbe2.setCell (by show w.heap.size ≤ F + 1; omega) _) (by rw [hszf]; omega) h3 (fun b hb hor => ?_), st.hN, hlo, by rw [hszf]; omega, ?_, ?_, st.ep, st.er, st.ec, ?_, ⟨?_, ?_, ?_⟩, ?_, ?_⟩
  · have hbF : b < F := by rcases hor with h | h; exact st.hN b h; omega
    exact (kf b (by omega)).trans (k2 b hb (fun hh => by have := hsa b hh; omega))
  · exact (kf F (by omega)).trans ((k2 F (by omega) (fun hh => by have := hsa F hh; omega)).trans st.bf)
  · have := set4 w2 (F + 1) 3 _ _ (.slice va (g.sels.length + 1) vc) hg
    simpa [objF] using this
  · show (g.sels ++ [_]).map MSel.sel = _
    rw [List.map_append, st.es, List.take_add_one, hy]
    simp [MSel.sel]
  · exact own_keep st.ow.1 fun b hb => kr b (by simp [MFn.rest, hb])
  · have : (g.sels ++ [(⟨ca, cc, y.cases, y.els⟩ : MSel)]).map MSel.cells = g.sels.map MSel.cells ++ [MSel.cells ⟨ca, cc, y.cases, y.els⟩] := by simp
    show OwnL _ _ _ _ va vc ((g.sels ++ [(⟨ca, cc, y.cases, y.els⟩ : MSel)]).map MSel.cells)
    rw [this]
    exact own_keep ho2 fun b hb => kf b (by rcases (hvb b hb).1 with h | h; have := hsa b h; omega; omega)
  · intro s hs
    rcases List.mem_append.mp hs with h | h
    · exact own_keep (st.ow.2.2 s h) fun b hb => kr b (by simp only [MFn.rest, List.mem_append, List.mem_flatMap]; exact .inr ⟨s, h, hb⟩)
    · simp only [List.mem_cons, List.not_mem_nil, or_false] at h
      subst h
      exact own_keep ho1 hkca
  · rw [hblocks]
    refine nodup_app (blk_nodup _) (nodup_app n2 (blk_nodup _) fun b hb hc => ?_) fun b hb hc => ?_
    · have := hrest b hb; have := hcb b hc; omega
    · rcases List.mem_append.mp hc with h | h
      · rcases (hvb b hb).1 with h' | h'
        · exact n3 b h h'
        · have := hrest b h; omega
      · have := hcb b h
        rcases (hvb b hb).1 with h' | h'
        · have := hsa b h'; omega
        · omega
  · intro b hb
    rw [hblocks] at hb
    rw [hszf]
    rcases List.mem_append.mp hb with h | h
    · have := hvb b h
      rcases this.1 with h' | h'
      · have := hsa b h'; omega
      · omega
    · rcases List.mem_append.mp h with h | h
      · have := hrest b h; omega
      · have := hcb b h; omega
theorem OSt.step {M : MPr} {w : World} {k : Nat} {N : MPr} {x : MFn} {F : Nat} {g : MFn} {wr : World} (st : ISt M w k N x F x.sels.length g wr) (hx : M.fns[k]? = some x)
    {wm : World} (hm : wm = wr.alloc (objF g)) {va : Option Addr} {vc : Nat} {w2 : World}
    (ho2 : OwnL w2 w.heap.size 58 4 va vc (N.fns.map MFn.cells ++ [MFn.cells g])) (hk2 : ∀ b, b < wm.heap.size → b ∉ blk N.fa → w2.heap[b]? = wm.heap[b]?)
    (hB2 : Below (min w.heap.size wm.heap.size) wm w2) (hbl2 : blk va = blk N.fa ∨ blk va = [wm.heap.size]) :
    OSt M w (k + 1) { N with fa := va, fcap := vc, fns := N.fns ++ [g] } (w2.setCell ⟨w.heap.size + 1 + 1, 3, none⟩ (.slice va (N.fns.length + 1) vc)) := by
  have h3 := st.o.three
  have hhi := st.hi
  have hlo := st.lo
  have hzm : wm.heap.size = wr.heap.size + 1 := by rw [hm, World.size_alloc]
  have hs2 : wr.heap.size + 1 ≤ w2.heap.size := by have := hB2.size; rw [hzm] at this; exact this
  have hbem : Below w.heap.size w wm := by rw [hm]; exact bthen st.o.be (boxed _ _)
  have hbe2 : Below w.heap.size w w2 := below_keep hbem (by omega) hB2
  have km : ∀ b, b < wr.heap.size → wm.heap[b]? = wr.heap[b]? := fun b hb => by rw [hm]; exact (boxed _ _).block b hb
  have kf : ∀ b, b ≠ w.heap.size + 1 + 1 → (w2.setCell ⟨w.heap.size + 1 + 1, 3, none⟩ (.slice va (N.fns.length + 1) vc)).heap[b]? = w2.heap[b]? := fun b hb => heap_setCell_other _ _ _ _ hb
  have hszf : (w2.setCell ⟨w.heap.size + 1 + 1, 3, none⟩ (.slice va (N.fns.length + 1) vc)).heap.size = w2.heap.size := World.size_setCell _ _ _
  have k2 : ∀ b, b < wr.heap.size → b ∉ blk N.fa → w2.heap[b]? = wr.heap[b]? := fun b hb hn => (hk2 b (by omega) hn).trans (km b hb)
  have hfa : ∀ b ∈ blk N.fa, w.heap.size + 3 ≤ b ∧ b < F := fun b hb => ⟨(st.o.bd b (by simp [MPr.blocks, hb])).1, st.hN b (by simp [MPr.blocks, hb])⟩
  have hrest : ∀ b ∈ N.rest, w.heap.size + 3 ≤ b ∧ b < F := fun b hb => ⟨(st.o.bd b (by simp [MPr.blocks, hb])).1, st.hN b (by simp [MPr.blocks, hb])⟩
  obtain ⟨_, n2, n3⟩ := nodup_out st.o.nd
  have kr : ∀ b ∈ N.rest, (w2.setCell ⟨w.heap.size + 1 + 1, 3, none⟩ (.slice va (N.fns.length + 1) vc)).heap[b]? = wr.heap[b]? := fun b hb => (kf b (by have := hrest b hb; omega)).trans (k2 b (by have := hrest b hb; omega) (n3 b hb))
  have kg : ∀ b ∈ g.blocks, (w2.setCell ⟨w.heap.size + 1 + 1, 3, none⟩ (.slice va (N.fns.length + 1) vc)).heap[b]? = wr.heap[b]? := fun b hb => by
    have hb' := st.bd b hb
    exact (kf b (by omega)).trans (k2 b hb'.2 (fun hh => by have := hfa b hh; omega))
  have hvb : ∀ b ∈ blk va, (b ∈ blk N.fa ∨ b = wm.heap.size) ∧ b < w2.heap.size := fun b hb => by
    refine ⟨?_, (blk_lt ho2 b hb).2⟩
    rcases hbl2 with q | q
    · rw [q] at hb; exact .inl hb
    · rw [q] at hb; simp at hb; exact .inr hb
  have hblocks : MPr.blocks { N with fa := va, fcap := vc, fns := N.fns ++ [g] } = blk va ++ (N.rest ++ g.blocks) := by
    simp [MPr.blocks, MPr.rest, List.flatMap_append]
  have kl : ∀ b, b < w.heap.size + 1 + 1 → (w2.setCell ⟨w.heap.size + 1 + 1, 3, none⟩ (.slice va (N.fns.length + 1) vc)).heap[b]? = wr.heap[b]? := fun b hb => (kf b (by omega)).trans (k2 b (by omega) (fun hh => by have := hfa b hh; omega))
  have hg : w2.heap[w.heap.size + 1 + 1]? = some (objP N) := (k2 _ (by omega) (fun hh => by have := hfa _ hh; omega)).trans st.o.b2
  have hgfn : MFn.fn g = MFn.fn x := by
    have := st.es
    rw [List.take_length] at this
    simp only [MFn.fn, st.ep, st.er, st.ec, this]
  refine ⟨hbe2.setCell (by show w.heap.size ≤ w.heap.size + 1 + 1; omega) _, (kl _ (by omega)).trans st.o.b0, (kl _ (by omega)).trans st.o.b1, ?_, st.o.ev, st.o.el, st.o.ec, ?_, ⟨?_, ?_, ?_, ?_⟩, ?_, ?_⟩
  · have := set4 w2 (w.heap.size + 1 + 1) 3 _ _ (.slice va (N.fns.length + 1) vc) hg
    simpa [objP] using this
  · show (N.fns ++ [g]).map MFn.fn = _
    rw [List.map_append, st.o.ef, List.take_add_one, hx]
    simp [hgfn]
  · exact own_keep st.o.ow.1 fun b hb => kr b (by simp [MPr.rest, hb])
  · exact own_keep st.o.ow.2.1 fun b hb => kr b (by simp [MPr.rest, hb])
  · have : (N.fns ++ [g]).map MFn.cells = N.fns.map MFn.cells ++ [MFn.cells g] := by simp
    show OwnL _ _ _ _ va vc ((N.fns ++ [g]).map MFn.cells)
    rw [this]
    exact own_keep ho2 fun b hb => kf b (by rcases (hvb b hb).1 with h | h; have := hfa b h; omega; omega)
  · intro f hf
    rcases List.mem_append.mp hf with h | h
    · exact (st.o.ow.2.2.2 f h).keep fun b hb => kr b (by simp only [MPr.rest, List.mem_append, List.mem_flatMap]; exact .inr (.inr ⟨f, h, hb⟩))
    · simp only [List.mem_cons, List.not_mem_nil, or_false] at h
      subst h
      exact st.ow.keep kg
  · rw [hblocks]
    refine nodup_app (blk_nodup _) (nodup_app n2 st.nd fun b hb hc => ?_) fun b hb hc => ?_
    · have := hrest b hb; have := st.bd b hc; omega
    · rcases List.mem_append.mp hc with h | h
      · rcases (hvb b hb).1 with h' | h'
        · exact n3 b h h'
        · have := hrest b h; omega
      · have := st.bd b h
        rcases (hvb b hb).1 with h' | h'
        · have := hfa b h'; omega
        · omega
  · intro b hb
    rw [hblocks] at hb
    rw [hszf]
    rcases List.mem_append.mp hb with h | h
    · have := hvb b h
      rcases this.1 with h' | h'
      · have := hfa b h'; omega
      · omega
    · rcases List.mem_append.mp h with h | h
      · have := hrest b h; omega
      · have := st.bd b h; omega
end Go.Proofs.YtofeohhnfnnifaaDoor.pg
