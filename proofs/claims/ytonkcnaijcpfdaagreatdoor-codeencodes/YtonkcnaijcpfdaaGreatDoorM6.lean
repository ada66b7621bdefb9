/- The states that the making of a copy goes through. -/
import Derived.Test.YtonkcnaijcpfdaaGreatDoorM5
namespace Go.Proofs.YtonkcnaijcpfdaaGreatDoor.pg
open Go.ChangeShapes Go.WideShapes Go.ChangeAt Go.RowKit
set_option linter.unusedVariables false
set_option linter.unusedSimpArgs false
/-- N is M, in memory of its own. -/
def Copied (M N : MPr) (w : World) (lo : Nat) : Prop := N.vars = M.vars ∧ N.locks = M.locks ∧ N.chans = M.chans ∧ N.fns.map MFn.fn = M.fns.map MFn.fn ∧ N.own w lo ∧ N.blocks.Nodup
theorem le2 (n : Nat) : n ≤ n + 1 + 1 := by omega
theorem ne2 (n : Nat) : n ≠ n + 1 + 1 := by omega
theorem ne1 (n : Nat) : n + 1 ≠ n + 1 + 1 := by omega
abbrev objO (va : Option Addr) (vn vc : Nat) (k : Int) (ha : Option Addr) (hn hc : Nat) (fa : Option Addr) (fn fc : Nat) : Obj := .cells #[.slice va vn vc, .int .i64 k, .slice ha hn hc, .slice fa fn fc] 26
abbrev objN : Obj := objO none 0 0 0 none 0 0 none 0 0
abbrev objG (x : MFn) : Obj := .cells #[.int .i64 x.params, .int .i64 x.regs, .slice none 0 0, .slice none 0 0] 56
abbrev objT (y : MSel) : Obj := .cells #[.slice none 0 0, .int .i64 y.els] 59
theorem set4 (w : World) (b i : Nat) (cs : Array Value) (t : TypeId) (v : Value) (h : w.heap[b]? = some (.cells cs t (0, 0))) : (w.setCell ⟨b, i, none⟩ v).heap[b]? = some (.cells (cs.setIfInBounds i v) t (0, 0)) := heap_setCell_same w b i cs t v h
theorem below_keep {B : Nat} {a w w' : World} (h : Below B a w) (hB : B ≤ w.heap.size) (k : Below (min B w.heap.size) w w') : Below B a w' := h.trans (k.mono (by omega))
structure OSt (M : MPr) (w : World) (k : Nat) (N : MPr) (wr : World) : Prop where
  be : Below w.heap.size w wr
  b0 : wr.heap[w.heap.size]? = some (objP M)
  b1 : wr.heap[w.heap.size + 1]? = some objN
  b2 : wr.heap[w.heap.size + 1 + 1]? = some (objP N)
  ev : N.vars = M.vars
  el : N.locks = M.locks
  ec : N.chans = M.chans
  ef : N.fns.map MFn.fn = (M.fns.take k).map MFn.fn
  ow : N.own wr w.heap.size
  nd : N.blocks.Nodup
  bd : ∀ b ∈ N.blocks, w.heap.size + 3 ≤ b ∧ b < wr.heap.size
structure ISt (M : MPr) (w : World) (k : Nat) (N : MPr) (x : MFn) (F q : Nat) (g : MFn) (wr : World) : Prop where
  o : OSt M w k N wr
  hN : ∀ b ∈ N.blocks, b < F
  lo : w.heap.size + 3 ≤ F
  hi : F + 1 < wr.heap.size
  bf : wr.heap[F]? = some (objF x)
  bg : wr.heap[F + 1]? = some (objF g)
  ep : g.params = x.params
  er : g.regs = x.regs
  ec : g.code = x.code
  es : g.sels.map MSel.sel = (x.sels.take q).map MSel.sel
  ow : g.own wr w.heap.size
  nd : g.blocks.Nodup
  bd : ∀ b ∈ g.blocks, F + 1 < b ∧ b < wr.heap.size
/-- Behind anything that leaves all these blocks as they were. -/
theorem OSt.keep {M : MPr} {w : World} {k : Nat} {N : MPr} {wr w' : World} (st : OSt M w k N wr) (hbe : Below w.heap.size w w') (hsz : wr.heap.size ≤ w'.heap.size) (h3 : w.heap.size + 1 + 1 < wr.heap.size) (hk : ∀ b, b < wr.heap.size → (b ∈ N.blocks ∨ b < w.heap.size + 3) → w'.heap[b]? = wr.heap[b]?) : OSt M w k N w' :=
  ⟨hbe, (hk _ (by omega) (.inr (by omega))).trans st.b0, (hk _ (by omega) (.inr (by omega))).trans st.b1, (hk _ (by omega) (.inr (by omega))).trans st.b2, st.ev, st.el, st.ec, st.ef, st.ow.keep fun g hg => hk g (st.bd g hg).2 (.inl hg), st.nd, fun b hb => ⟨(st.bd b hb).1, Nat.lt_of_lt_of_le (st.bd b hb).2 hsz⟩⟩
theorem OSt.three {M : MPr} {w : World} {k : Nat} {N : MPr} {wr : World} (st : OSt M w k N wr) : w.heap.size + 1 + 1 < wr.heap.size := (Array.getElem?_eq_some_iff.mp st.b2).1
theorem two_size (wr : World) (o1 o2 : Obj) : ((wr.alloc o1).alloc o2).heap.size = wr.heap.size + 1 + 1 := by rw [World.size_alloc, World.size_alloc]
theorem two_first (wr : World) (o1 o2 : Obj) : ((wr.alloc o1).alloc o2).heap[wr.heap.size]? = some o1 := ((boxed (wr.alloc o1) o2).block _ (by rw [World.size_alloc]; omega)).trans (heap_alloc_new wr o1)
theorem two_second (wr : World) (o1 o2 : Obj) : ((wr.alloc o1).alloc o2).heap[wr.heap.size + 1]? = some o2 := by
  have := heap_alloc_new (wr.alloc o1) o2
  rwa [World.size_alloc] at this
theorem two_old (wr : World) (o1 o2 : Obj) (b : Nat) (h : b < wr.heap.size) : ((wr.alloc o1).alloc o2).heap[b]? = wr.heap[b]? := (boxed2 wr o1 o2).block b h
/-- A function's copy begun: its code is laid. -/
theorem ISt.start {M : MPr} {w : World} {k : Nat} {N : MPr} {wr : World} {x : MFn} {ca : Option Addr} {cc : Nat} {w1 : World} (st : OSt M w k N wr)
    (ho : OwnL w1 w.heap.size 85 5 ca cc (x.code.map Ins.cells)) (hk : ∀ b, b < ((wr.alloc (objF x)).alloc (objG x)).heap.size → b ∉ blk none → w1.heap[b]? = ((wr.alloc (objF x)).alloc (objG x)).heap[b]?)
    (hB : Below (min w.heap.size ((wr.alloc (objF x)).alloc (objG x)).heap.size) ((wr.alloc (objF x)).alloc (objG x)) w1) (hbl : blk ca = blk none ∨ blk ca = [((wr.alloc (objF x)).alloc (objG x)).heap.size]) :
    ISt M w k N x wr.heap.size 0 ⟨x.params, x.regs, ca, cc, x.code, none, 0, []⟩ (w1.setCell ⟨wr.heap.size + 1, 2, none⟩ (.slice ca x.code.length cc)) := by
  have h3 := st.three
  have hz := two_size wr (objF x) (objG x)
  have hs1 : wr.heap.size + 1 + 1 ≤ w1.heap.size := by have := hB.size; rw [hz] at this; exact this
  have hbe : Below w.heap.size w w1 := below_keep (bthen st.be (boxed2 wr _ _)) (by rw [hz]; have := st.be.size; omega) hB
  have hk' : ∀ b, b < wr.heap.size → w1.heap[b]? = wr.heap[b]? := fun b hb => (hk b (by rw [hz]; omega) (by simp [blk])).trans (two_old wr _ _ b hb)
  have hf : w1.heap[wr.heap.size]? = some (objF x) := (hk _ (by rw [hz]; omega) (by simp [blk])).trans (two_first wr _ _)
  have hg : w1.heap[wr.heap.size + 1]? = some (objG x) := (hk _ (by rw [hz]; omega) (by simp [blk])).trans (two_second wr _ _)
  have hsz : (w1.setCell ⟨wr.heap.size + 1, 2, none⟩ (.slice ca x.code.length cc)).heap.size = w1.heap.size := World.size_setCell _ _ _
  have hoth : ∀ b, b ≠ wr.heap.size + 1 → (w1.setCell ⟨wr.heap.size + 1, 2, none⟩ (.slice ca x.code.length cc)).heap[b]? = w1.heap[b]? := fun b hb => heap_setCell_other _ _ _ _ hb
  have hcb : ∀ b ∈ blk ca, wr.heap.size + 1 < b ∧ b < w1.heap.size := fun b hb => by
    have h1 := (blk_lt ho b hb).2
    rcases hbl with q | q
    · rw [q] at hb; simp [blk] at hb
    · rw [q, hz] at hb; simp at hb; omega
  refine ⟨st.keep (hbe.setCell (by show w.heap.size ≤ wr.heap.size + 1; omega) _) (by rw [hsz]; omega) h3 (fun b hb _ => (hoth b (by omega)).trans (hk' b hb)), fun b hb => (st.bd b hb).2, by omega, by rw [hsz]; omega, (hoth _ (by omega)).trans hf, set4 _ _ _ _ _ _ hg, rfl, rfl, rfl, by simp, ⟨own_keep ho (fun b hb => hoth b (by have := hcb b hb; omega)), own_nil _ _ _ _, by simp⟩, ?_, fun b hb => ?_⟩
  · simp only [MFn.blocks, MFn.rest, blk, List.flatMap_nil, List.append_nil, List.nil_append]
    cases ca <;> simp
  · have : b ∈ blk ca := by simpa [MFn.blocks, MFn.rest, blk] using hb
    rw [hsz]
    exact hcb b this
end Go.Proofs.YtonkcnaijcpfdaaGreatDoor.pg
/- A select is copied, and a function. -/
namespace Go.Proofs.YtonkcnaijcpfdaaGreatDoor.pg
open Go.ChangeShapes Go.WideShapes Go.ChangeAt Go.RowKit
set_option linter.unusedVariables false
set_option linter.unusedSimpArgs false
theorem nodup_app {l m : List Nat} (h1 : l.Nodup) (h2 : m.Nodup) (h : ∀ b ∈ l, b ∉ m) : (l ++ m).Nodup := List.nodup_append.mpr ⟨h1, h2, fun a ha b hb e => h a ha (e ▸ hb)⟩
theorem nodup_out {l m : List Nat} (h : (l ++ m).Nodup) : l.Nodup ∧ m.Nodup ∧ ∀ b ∈ m, b ∉ l := ⟨(List.nodup_append.mp h).1, (List.nodup_append.mp h).2.1, fun b hb hl => (List.nodup_append.mp h).2.2 b hl b hb rfl⟩
theorem blk_nodup (a : Option Addr) : (blk a).Nodup := by cases a <;> simp [blk]
theorem ISt.step {M : MPr} {w : World} {k : Nat} {N : MPr} {x : MFn} {F q : Nat} {g : MFn} {wr : World} (st : ISt M w k N x F q g wr) {y : MSel} (hy : x.sels[q]? = some y)
    {ca : Option Addr} {cc : Nat} {w1 : World}
    (ho1 : OwnL w1 w.heap.size 101 4 ca cc (y.cases.map Cas.cells)) (hk1 : ∀ b, b < ((wr.alloc (objS y)).alloc (objT y)).heap.size → b ∉ blk none → w1.heap[b]? = ((wr.alloc (objS y)).alloc (objT y)).heap[b]?)
    (hB1 : Below (min w.heap.size ((wr.alloc (objS y)).alloc (objT y)).heap.size) ((wr.alloc (objS y)).alloc (objT y)) w1) (hbl1 : blk ca = blk none ∨ blk ca = [((wr.alloc (objS y)).alloc (objT y)).heap.size])
    {wm : World} (hm : wm = (w1.setCell ⟨wr.heap.size + 1, 0, none⟩ (.slice ca y.cases.length cc)).alloc (objS ⟨ca, cc, y.cases, y.els⟩))
    {va : Option Addr} {vc : Nat} {w2 : World}
    (ho2 : OwnL w2 w.heap.size 59 2 va vc (g.sels.map MSel.cells ++ [MSel.cells ⟨ca, cc, y.cases, y.els⟩])) (hk2 : ∀ b, b < wm.heap.size → b ∉ blk g.sa → w2.heap[b]? = wm.heap[b]?)
    (hB2 : Below (min w.heap.size wm.heap.size) wm w2) (hbl2 : blk va = blk g.sa ∨ blk va = [wm.heap.size]) :
    ISt M w k N x F (q + 1) { g with sa := va, scap := vc, sels := g.sels ++ [⟨ca, cc, y.cases, y.els⟩] } (w2.setCell ⟨F + 1, 3, none⟩ (.slice va (g.sels.length + 1) vc)) := by
  have h3 := st.o.three
  have hhi := st.hi
  have hlo := st.lo
  have hz := two_size wr (objS y) (objT y)
  have hs1 : wr.heap.size + 1 + 1 ≤ w1.heap.size := by have := hB1.size; rw [hz] at this; exact this
  have hzm : wm.heap.size = w1.heap.size + 1 := by rw [hm, World.size_alloc, World.size_setCell]
  have hs2 : w1.heap.size + 1 ≤ w2.heap.size := by have := hB2.size; rw [hzm] at this; exact this
  have hbe1 : Below w.heap.size w w1 := below_keep (bthen st.o.be (boxed2 wr _ _)) (by rw [hz]; have := st.o.be.size; omega) hB1
  have hbem : Below w.heap.size w wm := by
    rw [hm]
    exact bthen (hbe1.setCell (by show w.heap.size ≤ wr.heap.size + 1; omega) _) (boxed _ _)
  have hbe2 : Below w.heap.size w w2 := below_keep hbem (by omega) hB2
  have k1 : ∀ b, b < wr.heap.size → w1.heap[b]? = wr.heap[b]? := fun b hb => (hk1 b (by rw [hz]; omega) (by simp [blk])).trans (two_old wr _ _ b hb)
  have km : ∀ b, b < w1.heap.size → b ≠ wr.heap.size + 1 → wm.heap[b]? = w1.heap[b]? := fun b hb hne => by
    rw [hm]
    exact ((boxed _ _).block b (by rw [World.size_setCell]; exact hb)).trans (heap_setCell_other _ _ _ _ hne)
  have kf : ∀ b, b ≠ F + 1 → (w2.setCell ⟨F + 1, 3, none⟩ (.slice va (g.sels.length + 1) vc)).heap[b]? = w2.heap[b]? := fun b hb => heap_setCell_other _ _ _ _ hb
  have hszf : (w2.setCell ⟨F + 1, 3, none⟩ (.slice va (g.sels.length + 1) vc)).heap.size = w2.heap.size := World.size_setCell _ _ _
  have k2 : ∀ b, b < wr.heap.size → b ∉ blk g.sa → w2.heap[b]? = wr.heap[b]? := fun b hb hn => (hk2 b (by omega) hn).trans ((km b (by omega) (by omega)).trans (k1 b hb))
  have hsa : ∀ b ∈ blk g.sa, F + 1 < b ∧ b < wr.heap.size := fun b hb => st.bd b (by simp [MFn.blocks, hb])
  have hrest : ∀ b ∈ g.rest, F + 1 < b ∧ b < wr.heap.size := fun b hb => st.bd b (by simp [MFn.blocks, hb])
  obtain ⟨_, n2, n3⟩ := nodup_out st.nd
  have kr : ∀ b ∈ g.rest, (w2.setCell ⟨F + 1, 3, none⟩ (.slice va (g.sels.length + 1) vc)).heap[b]? = wr.heap[b]? := fun b hb => (kf b (by have := hrest b hb; omega)).trans (k2 b (hrest b hb).2 (n3 b hb))
  have hcb : ∀ b ∈ blk ca, wr.heap.size + 1 < b ∧ b < w1.heap.size := fun b hb => by
    have h1 := (blk_lt ho1 b hb).2
    rcases hbl1 with q | q
    · rw [q] at hb; simp [blk] at hb
    · rw [q, hz] at hb; simp at hb; omega
  have hvb : ∀ b ∈ blk va, (b ∈ blk g.sa ∨ b = wm.heap.size) ∧ b < w2.heap.size := fun b hb => by
    refine ⟨?_, (blk_lt ho2 b hb).2⟩
    rcases hbl2 with q | q
    · rw [q] at hb; exact .inl hb
    · rw [q] at hb; simp at hb; exact .inr hb
  have hblocks : MFn.blocks { g with sa := va, scap := vc, sels := g.sels ++ [⟨ca, cc, y.cases, y.els⟩] } = blk va ++ (g.rest ++ blk ca) := by
    simp [MFn.blocks, MFn.rest, List.flatMap_append]
  have hg : w2.heap[F + 1]? = some (objF g) := (k2 _ (by omega) (fun hh => by have := hsa _ hh; omega)).trans st.bg
  have hnew : w2.heap.size = w2.heap.size := rfl
  have hkca : ∀ b ∈ blk ca, (w2.setCell ⟨F + 1, 3, none⟩ (.slice va (g.sels.length + 1) vc)).heap[b]? = w1.heap[b]? := fun b hb => by
    have hc := hcb b hb
    exact (kf b (by omega)).trans ((hk2 b (by omega) (fun hh => by have := hsa b hh; omega)).trans (km b hc.2 (by omega)))
  refine ⟨st.o.keep (hbe2.setCell (by show w.heap.size ≤ F + 1; omega) _) (by rw [hszf]; omega) h3 (fun b hb hor => ?_), st.hN, hlo, by rw [hszf]; omega, ?_, ?_, st.ep, st.er, st.ec, ?_, ⟨?_, ?_, ?_⟩, ?_, ?_⟩
  · have hbF : b < F := by rcases hor with h | h; exact st.hN b h; omega
    exact (kf b (by omega)).trans (k2 b hb (fun hh => by have := hsa b hh; omega))
  · exact (kf F (by omega)).trans ((k2 F (by omega) (fun hh => by have := hsa F hh; omega)).trans st.bf)
  · have := set4 w2 (F + 1) 3 _ _ (.slice va (g.sels.length + 1) vc) hg
    simpa [objF] using this
  · show (g.sels ++ [_]).map MSel.sel = _
    rw [List.map_append, st.es, List.take_add_one, hy]
    simp [MSel.sel]
  · exact own_keep st.ow.1 fun b hb => kr b (by simp [MFn.rest, hb])
  · have : (g.sels ++ [(⟨ca, cc, y.cases, y.els⟩ : MSel)]).map MSel.cells = g.sels.map MSel.cells ++ [MSel.cells ⟨ca, cc, y.cases, y.els⟩] := by simp
    show OwnL _ _ _ _ va vc ((g.sels ++ [(⟨ca, cc, y.cases, y.els⟩ : MSel)]).map MSel.cells)
    rw [this]
    exact own_keep ho2 fun b hb => kf b (by rcases (hvb b hb).1 with h | h; have := hsa b h; omega; omega)
  · intro s hs
    rcases List.mem_append.mp hs with h | h
    · exact own_keep (st.ow.2.2 s h) fun b hb => kr b (by simp only [MFn.rest, List.mem_append, List.mem_flatMap]; exact .inr ⟨s, h, hb⟩)
    · simp only [List.mem_cons, List.not_mem_nil, or_false] at h
      subst h
      exact own_keep ho1 hkca
  · rw [hblocks]
    refine nodup_app (blk_nodup _) (nodup_app n2 (blk_nodup _) fun b hb hc => ?_) fun b hb hc => ?_
    · have := hrest b hb; have := hcb b hc; omega
    · rcases List.mem_append.mp hc with h | h
      · rcases (hvb b hb).1 with h' | h'
        · exact n3 b h h'
        · have := hrest b h; omega
      · have := hcb b h
        rcases (hvb b hb).1 with h' | h'
        · have := hsa b h'; omega
        · omega
  · intro b hb
    rw [hblocks] at hb
    rw [hszf]
    rcases List.mem_append.mp hb with h | h
    · have := hvb b h
      rcases this.1 with h' | h'
      · have := hsa b h'; omega
      · omega
    · rcases List.mem_append.mp h with h | h
      · have := hrest b h; omega
      · have := hcb b h; omega
theorem OSt.step {M : MPr} {w : World} {k : Nat} {N : MPr} {x : MFn} {F : Nat} {g : MFn} {wr : World} (st : ISt M w k N x F x.sels.length g wr) (hx : M.fns[k]? = some x)
    {wm : World} (hm : wm = wr.alloc (objF g)) {va : Option Addr} {vc : Nat} {w2 : World}
    (ho2 : OwnL w2 w.heap.size 56 4 va vc (N.fns.map MFn.cells ++ [MFn.cells g])) (hk2 : ∀ b, b < wm.heap.size → b ∉ blk N.fa → w2.heap[b]? = wm.heap[b]?)
    (hB2 : Below (min w.heap.size wm.heap.size) wm w2) (hbl2 : blk va = blk N.fa ∨ blk va = [wm.heap.size]) :
    OSt M w (k + 1) { N with fa := va, fcap := vc, fns := N.fns ++ [g] } (w2.setCell ⟨w.heap.size + 1 + 1, 3, none⟩ (.slice va (N.fns.length + 1) vc)) := by
  have h3 := st.o.three
  have hhi := st.hi
  have hlo := st.lo
  have hzm : wm.heap.size = wr.heap.size + 1 := by rw [hm, World.size_alloc]
  have hs2 : wr.heap.size + 1 ≤ w2.heap.size := by have := hB2.size; rw [hzm] at this; exact this
  have hbem : Below w.heap.size w wm := by rw [hm]; exact bthen st.o.be (boxed _ _)
  have hbe2 : Below w.heap.size w w2 := below_keep hbem (by omega) hB2
  have km : ∀ b, b < wr.heap.size → wm.heap[b]? = wr.heap[b]? := fun b hb => by rw [hm]; exact (boxed _ _).block b hb
  have kf : ∀ b, b ≠ w.heap.size + 1 + 1 → (w2.setCell ⟨w.heap.size + 1 + 1, 3, none⟩ (.slice va (N.fns.length + 1) vc)).heap[b]? = w2.heap[b]? := fun b hb => heap_setCell_other _ _ _ _ hb
  have hszf : (w2.setCell ⟨w.heap.size + 1 + 1, 3, none⟩ (.slice va (N.fns.length + 1) vc)).heap.size = w2.heap.size := World.size_setCell _ _ _
  have k2 : ∀ b, b < wr.heap.size → b ∉ blk N.fa → w2.heap[b]? = wr.heap[b]? := fun b hb hn => (hk2 b (by omega) hn).trans (km b hb)
  have hfa : ∀ b ∈ blk N.fa, w.heap.size + 3 ≤ b ∧ b < F := fun b hb => ⟨(st.o.bd b (by simp [MPr.blocks, hb])).1, st.hN b (by simp [MPr.blocks, hb])⟩
  have hrest : ∀ b ∈ N.rest, w.heap.size + 3 ≤ b ∧ b < F := fun b hb => ⟨(st.o.bd b (by simp [MPr.blocks, hb])).1, st.hN b (by simp [MPr.blocks, hb])⟩
  obtain ⟨_, n2, n3⟩ := nodup_out st.o.nd
  have kr : ∀ b ∈ N.rest, (w2.setCell ⟨w.heap.size + 1 + 1, 3, none⟩ (.slice va (N.fns.length + 1) vc)).heap[b]? = wr.heap[b]? := fun b hb => (kf b (by have := hrest b hb; omega)).trans (k2 b (by have := hrest b hb; omega) (n3 b hb))
  have kg : ∀ b ∈ g.blocks, (w2.setCell ⟨w.heap.size + 1 + 1, 3, none⟩ (.slice va (N.fns.length + 1) vc)).heap[b]? = wr.heap[b]? := fun b hb => by
    have hb' := st.bd b hb
    exact (kf b (by omega)).trans (k2 b hb'.2 (fun hh => by have := hfa b hh; omega))
  have hvb : ∀ b ∈ blk va, (b ∈ blk N.fa ∨ b = wm.heap.size) ∧ b < w2.heap.size := fun b hb => by
    refine ⟨?_, (blk_lt ho2 b hb).2⟩
    rcases hbl2 with q | q
    · rw [q] at hb; exact .inl hb
    · rw [q] at hb; simp at hb; exact .inr hb
  have hblocks : MPr.blocks { N with fa := va, fcap := vc, fns := N.fns ++ [g] } = blk va ++ (N.rest ++ g.blocks) := by
    simp [MPr.blocks, MPr.rest, List.flatMap_append]
  have kl : ∀ b, b < w.heap.size + 1 + 1 → (w2.setCell ⟨w.heap.size + 1 + 1, 3, none⟩ (.slice va (N.fns.length + 1) vc)).heap[b]? = wr.heap[b]? := fun b hb => (kf b (by omega)).trans (k2 b (by omega) (fun hh => by have := hfa b hh; omega))
  have hg : w2.heap[w.heap.size + 1 + 1]? = some (objP N) := (k2 _ (by omega) (fun hh => by have := hfa _ hh; omega)).trans st.o.b2
  have hgfn : MFn.fn g = MFn.fn x := by
    have := st.es
    rw [List.take_length] at this
    simp only [MFn.fn, st.ep, st.er, st.ec, this]
  refine ⟨hbe2.setCell (by show w.heap.size ≤ w.heap.size + 1 + 1; omega) _, (kl _ (by omega)).trans st.o.b0, (kl _ (by omega)).trans st.o.b1, ?_, st.o.ev, st.o.el, st.o.ec, ?_, ⟨?_, ?_, ?_, ?_⟩, ?_, ?_⟩
  · have := set4 w2 (w.heap.size + 1 + 1) 3 _ _ (.slice va (N.fns.length + 1) vc) hg
    simpa [objP] using this
  · show (N.fns ++ [g]).map MFn.fn = _
    rw [List.map_append, st.o.ef, List.take_add_one, hx]
    simp [hgfn]
  · exact own_keep st.o.ow.1 fun b hb => kr b (by simp [MPr.rest, hb])
  · exact own_keep st.o.ow.2.1 fun b hb => kr b (by simp [MPr.rest, hb])
  · have : (N.fns ++ [g]).map MFn.cells = N.fns.map MFn.cells ++ [MFn.cells g] := by simp
    show OwnL _ _ _ _ va vc ((N.fns ++ [g]).map MFn.cells)
    rw [this]
    exact own_keep ho2 fun b hb => kf b (by rcases (hvb b hb).1 with h | h; have := hfa b h; omega; omega)
  · intro f hf
    rcases List.mem_append.mp hf with h | h
    · exact (st.o.ow.2.2.2 f h).keep fun b hb => kr b (by simp only [MPr.rest, List.mem_append, List.mem_flatMap]; exact .inr (.inr ⟨f, h, hb⟩))
    · simp only [List.mem_cons, List.not_mem_nil, or_false] at h
      subst h
      exact st.ow.keep kg
  · rw [hblocks]
    refine nodup_app (blk_nodup _) (nodup_app n2 st.nd fun b hb hc => ?_) fun b hb hc => ?_
    · have := hrest b hb; have := st.bd b hc; omega
    · rcases List.mem_append.mp hc with h | h
      · rcases (hvb b hb).1 with h' | h'
        · exact n3 b h h'
        · have := hrest b h; omega
      · have := st.bd b h
        rcases (hvb b hb).1 with h' | h'
        · have := hfa b h'; omega
        · omega
  · intro b hb
    rw [hblocks] at hb
    rw [hszf]
    rcases List.mem_append.mp hb with h | h
    · have := hvb b h
      rcases this.1 with h' | h'
      · have := hfa b h'; omega
      · omega
    · rcases List.mem_append.mp h with h | h
      · have := hrest b h; omega
      · have := st.bd b h; omega
end Go.Proofs.YtonkcnaijcpfdaaGreatDoor.pg
/- The contract of the statements' own Prog: a program in memory of its own. -/
namespace Go.Proofs.YtonkcnaijcpfdaaGreatDoor.pg
open Go.ChangeShapes Go.WideShapes Go.ChangeAt Go.RowKit
set_option linter.unusedVariables false
set_option linter.unusedSimpArgs false
set_option maxRecDepth 100000
theorem OSt.start {M : MPr} {w w2 : World} {va ha : Option Addr} {vc hc n1 : Nat} (hbe : Below w.heap.size w w2) (v0 : w2.heap[w.heap.size]? = some (objP M)) (v1 : w2.heap[w.heap.size + 1]? = some objN)
    (v2 : w2.heap[w.heap.size + 1 + 1]? = some (objO va M.vars.length vc M.locks none 0 0 none 0 0)) (ov : OwnL w2 w.heap.size 75 2 va vc (M.vars.map Vr.cells)) (oh : OwnL w2 w.heap.size 3 1 ha hc (M.chans.map chCells))
    (hva : ∀ b ∈ blk va, w.heap.size + 3 ≤ b ∧ b < n1) (hha : ∀ b ∈ blk ha, n1 ≤ b) (hn : w.heap.size + 3 ≤ n1) :
    OSt M w 0 ⟨va, vc, M.vars, M.locks, ha, hc, M.chans, none, 0, []⟩ (w2.setCell ⟨w.heap.size + 1 + 1, 2, none⟩ (.slice ha M.chans.length hc)) := by
  have kf : ∀ b, b ≠ w.heap.size + 1 + 1 → (w2.setCell ⟨w.heap.size + 1 + 1, 2, none⟩ (.slice ha M.chans.length hc)).heap[b]? = w2.heap[b]? := fun b hb => heap_setCell_other _ _ _ _ hb
  have hszf : (w2.setCell ⟨w.heap.size + 1 + 1, 2, none⟩ (.slice ha M.chans.length hc)).heap.size = w2.heap.size := World.size_setCell _ _ _
  have hb : MPr.blocks ⟨va, vc, M.vars, M.locks, ha, hc, M.chans, none, 0, []⟩ = blk va ++ blk ha := by simp [MPr.blocks, MPr.rest, blk]
  refine ⟨hbe.setCell (le2 _) _, (kf _ (by omega)).trans v0, (kf _ (by omega)).trans v1, ?_, rfl, rfl, rfl, by simp, ⟨own_keep ov fun b hb => kf b (by have := hva b hb; omega), own_keep oh fun b hb => kf b (by have := hha b hb; omega), own_nil _ _ _ _, by simp⟩, ?_, ?_⟩
  · have := set4 w2 (w.heap.size + 1 + 1) 2 _ _ (.slice ha M.chans.length hc) v2
    simpa [objP] using this
  · rw [hb]
    exact nodup_app (blk_nodup _) (blk_nodup _) fun b h1 h2 => by have := hva b h1; have := hha b h2; omega
  · intro b h
    rw [hb] at h
    rw [hszf]
    rcases List.mem_append.mp h with h | h
    · exact ⟨(hva b h).1, (blk_lt ov b h).2⟩
    · exact ⟨by have := hha b h; omega, (blk_lt oh b h).2⟩
theorem rows_one {w : World} {b k : Nat} {cs : List Value} {t : TypeId} (h : w.heap[b]? = some (.cells cs.toArray t (0, 0))) (hk : cs.length = k) : Rows w k (some ⟨b, 0, none⟩) 1 [cs] := by
  refine ⟨by simp, by omega, by simp, .inr ⟨b, 0, rfl, (Array.getElem?_eq_some_iff.mp h).1, fun i row hi => ?_⟩⟩
  cases i with
  | zero =>
    simp at hi
    subst hi
    refine ⟨hk, fun j u hj => ?_⟩
    have := whole_cell h j u (by simpa using hj)
    simpa using this
  | succ i => simp at hi
set_option maxHeartbeats 8000000 in
theorem copy_any (M : MPr) (w : World) (hl : M.lies w) (hs : M.sz) :
    Calls Tryz.prog 5 #[M.val] w fun e w' => ∃ N : MPr, e = .returned N.val ∧ Copied M N w' w.heap.size ∧ Below w.heap.size w w' := by
  obtain ⟨iV, hiV, hzV, hsV, hbV⟩ := info_of infoV
  obtain ⟨iN, hiN, hzN, hsN, hbN⟩ := info_of infoN
  obtain ⟨iI, hiI, hzI, hsI, hbI⟩ := info_of infoI
  obtain ⟨iC, hiC, hzC, hsC, hbC⟩ := info_of infoC
  obtain ⟨iS, hiS, hzS, hsS, hbS⟩ := info_of infoS
  obtain ⟨iF, hiF, hzF, hsF, hbF⟩ := info_of infoF
  have hlv := rows_len hl.1
  have hlc := rows_len hl.2.1
  have hlf := rows_len hl.2.2.1
  have hsv := hs.1
  have hsc := hs.2.1
  have hsf := hs.2.2.1
  have hR : reachBytes = 140737488351232 := rfl
  have hb3 := boxed3 w (objP M) (objO none 0 0 0 none 0 0 none 0 0) (objO none 0 0 M.locks none 0 0 none 0 0)
  have g0 : Hid ((((w.alloc (objP M)).alloc (objO none 0 0 0 none 0 0 none 0 0)).alloc (objO none 0 0 M.locks none 0 0 none 0 0)).heap[w.heap.size]? = some (objP M)) :=
    ((boxed2 (w.alloc (objP M)) _ _).block w.heap.size (by simp)).trans (heap_alloc_new w _)
  have g1 : Hid ((((w.alloc (objP M)).alloc (objO none 0 0 0 none 0 0 none 0 0)).alloc (objO none 0 0 M.locks none 0 0 none 0 0)).heap[w.heap.size + 1]? = some (objO none 0 0 0 none 0 0 none 0 0)) := by
    have q := heap_alloc_new (w.alloc (objP M)) (objO none 0 0 0 none 0 0 none 0 0)
    rw [World.size_alloc] at q
    exact ((boxed ((w.alloc (objP M)).alloc _) _).block (w.heap.size + 1) (by simp)).trans q
  have g2 : Hid ((((w.alloc (objP M)).alloc (objO none 0 0 0 none 0 0 none 0 0)).alloc (objO none 0 0 M.locks none 0 0 none 0 0)).heap[w.heap.size + 1 + 1]? = some (objO none 0 0 M.locks none 0 0 none 0 0)) := by
    have q := heap_alloc_new ((w.alloc (objP M)).alloc (objO none 0 0 0 none 0 0 none 0 0)) (objO none 0 0 M.locks none 0 0 none 0 0)
    rw [World.size_alloc, World.size_alloc] at q
    exact q
  have hz3 : Hid ((((w.alloc (objP M)).alloc (objO none 0 0 0 none 0 0 none 0 0)).alloc (objO none 0 0 M.locks none 0 0 none 0 0)).heap.size = w.heap.size + 1 + 1 + 1) := by simp only [Hid, World.size_alloc]
  go_enter Tryz.func5, Tryz.ntmps5
  go_wp2_with (first
    | (at_builtin; (refine wpList_app rfl (.tmp 14) (.tmp 16) 22 rfl w.heap.size 75 iV _ 2 16 Tryz.underlying22 hiV hzV hsV hbV rfl (by decide) none 0 [] rfl (own_nil _ _ _ _) M.va M.vcap (M.vars.map Vr.cells) (by rw [List.length_map]; rfl) (hl.1.later hb3) (len2 _) (one2 _) (by unfold maxLen; simp only [List.length_map, List.length_nil]; omega) (by simp only [List.length_map, List.length_nil]; omega) hb3.size ?_); intro va vc w1 ho1 hk1 hB1 hbl1; simp only [List.nil_append, List.length_map] at ho1 ⊢;
          (have hbw1 : Below w.heap.size w w1 := hb3.trans (hB1.mono (by rw [hz3.out]; omega)));
          (have hsz1 : w.heap.size + 1 + 1 + 1 ≤ w1.heap.size := by have := hB1.size; rw [hz3.out] at this; exact this);
          (have u0 : Hid (w1.heap[w.heap.size]? = some (objP M)) := (hk1 _ (by rw [hz3.out]; omega) (by simp [blk])).trans g0.out);
          (have u1 : Hid (w1.heap[w.heap.size + 1]? = some (objO none 0 0 0 none 0 0 none 0 0)) := (hk1 _ (by rw [hz3.out]; omega) (by simp [blk])).trans g1.out);
          (have u2 : Hid (w1.heap[w.heap.size + 1 + 1]? = some (objO none 0 0 M.locks none 0 0 none 0 0)) := (hk1 _ (by rw [hz3.out]; omega) (by simp [blk])).trans g2.out);
          (have a2 := whole_cell u0.out 2 _ rfl);
          (have o0 := whole_cell u2.out 0 _ rfl);
          (have o2 := whole_cell u2.out 2 _ rfl);
          (have fz0 := whole_frozen u2.out 0);
          (have fz2 := whole_frozen u2.out 2);
          clear hk1 hB1)
    | (at_builtin; (refine wpList_app rfl (.tmp 20) (.tmp 22) 23 rfl w.heap.size 3 iN _ 1 8 Tryz.underlying23 hiN hzN hsN hbN rfl (by decide) none 0 [] rfl (own_nil _ _ _ _) M.cha M.chcap (M.chans.map chCells) (by rw [List.length_map]; rfl) (hl.2.1.later (hbw1.setCell (le2 _) _)) (len1 _) (one1 _) (by unfold maxLen; simp only [List.length_map, List.length_nil]; omega) (by simp only [List.length_map, List.length_nil]; omega) (hbw1.setCell (le2 _) _).size ?_); intro ha hc w2 ho2 hk2 hB2 hbl2; simp only [List.nil_append, List.length_map] at ho2 ⊢;
          (have hzs : (w1.setCell ⟨w.heap.size + 1 + 1, 0, none⟩ (.slice va M.vars.length vc)).heap.size = w1.heap.size := World.size_setCell _ _ _);
          (have hbw2 : Below w.heap.size w w2 := (hbw1.setCell (p := ⟨w.heap.size + 1 + 1, 0, none⟩) (le2 _) (.slice va M.vars.length vc)).trans (hB2.mono (by rw [hzs]; omega)));
          (have v0 : Hid (w2.heap[w.heap.size]? = some (objP M)) := (hk2 _ (by rw [hzs]; omega) (by simp [blk])).trans ((heap_setCell_other _ _ _ _ (ne2 _)).trans u0.out));
          (have v1 : Hid (w2.heap[w.heap.size + 1]? = some (objO none 0 0 0 none 0 0 none 0 0)) := (hk2 _ (by rw [hzs]; omega) (by simp [blk])).trans ((heap_setCell_other _ _ _ _ (ne1 _)).trans u1.out));
          (have v2 : Hid (w2.heap[w.heap.size + 1 + 1]? = some (objO va M.vars.length vc M.locks none 0 0 none 0 0)) := (hk2 _ (by rw [hzs]; omega) (by simp [blk])).trans (set4 _ _ _ _ _ _ u2.out));
          (have ov : Hid (OwnL w2 w.heap.size 75 2 va vc (M.vars.map Vr.cells)) := own_keep ho1 (fun g hg => by
            have q : g < w1.heap.size := (blk_lt ho1 g hg).2
            have q3 : g ≠ w.heap.size + 1 + 1 := by
              rcases hbl1 with q | q
              · rw [q] at hg; simp [blk] at hg
              · rw [q, hz3.out] at hg; simp at hg; omega
            rw [hk2 g (by rw [hzs]; exact q) (by simp [blk])]
            exact heap_setCell_other _ _ _ _ q3));
          (have a3 := whole_cell v0.out 3 _ rfl);
          (have o2' := whole_cell v2.out 2 _ rfl);
          (have fz2' := whole_frozen v2.out 2);
          (have hsz2 : w1.heap.size ≤ w2.heap.size := by have := hB2.size; rw [hzs] at this; exact this);
          clear a2 o0 o2 fz0 fz2 hk2 hB2))
  have hst := OSt.start hbw2 v0.out v1.out v2.out ov.out ho2 (n1 := w1.heap.size) (fun b hb => by
    refine ⟨?_, (blk_lt ho1 b hb).2⟩
    rcases hbl1 with q | q
    · rw [q] at hb; simp [blk] at hb
    · rw [q, hz3.out] at hb; simp at hb; omega) (fun b hb => by
    rcases hbl2 with q | q
    · rw [q] at hb; simp [blk] at hb
    · rw [q, World.size_setCell] at hb; simp at hb; omega) hsz1
  clear a3 o2' fz2' hsz2 v0 v1 v2 ov ho2 hbw2 hbl1 hbl2 ho1 hbw1 hsz1 u0 u1 u2 g0 g1 g2 hz3 hb3
  generalize w2.setCell ⟨w.heap.size + 1 + 1, 2, none⟩ (.slice ha M.chans.length hc) = W0 at *
  go_loopw [28] (fun u wr => ∃ (k : Nat) (N : MPr), k ≤ M.fns.length ∧ u = .int .i64 k ∧ OSt M w k N wr) (fun u _ => M.fns.length - (intOf u).toNat)
  case atStart => exact ⟨0, _, Nat.zero_le _, rfl, hst⟩
  case round =>
    clear hst
    obtain ⟨k, N, hk, rfl, st⟩ := hrel
    by_cases hlt : k < M.fns.length
    · obtain ⟨x, hx, hxm⟩ := get_lt M.fns k hlt
      obtain ⟨bx, ox, hix, _, c0, c1, c2, c3⟩ := fn_ix (hl.later st.be).2.2.1 k x hx
      have hxl := hl.2.2.2.2.2.2 x hxm
      have hxs := hs.2.2.2 x hxm
      have hlx := rows_len hxl.1
      have hlx2 := rows_len hxl.2.1
      have hxs1 := hxs.1
      have hklI : (k : Int) < (M.fns.length : Int) := by omega
      have hbx : Hid (Below w.heap.size w ((wr.alloc (objF x)).alloc (objG x))) := bthen st.be (boxed2 wr _ _)
      have hz2 : Hid (((wr.alloc (objF x)).alloc (objG x)).heap.size = wr.heap.size + 1 + 1) := two_size _ _ _
      go_wp2_with (first
        | (at_builtin; (refine wpList_app rfl (.tmp 39) (.tmp 41) 53 rfl w.heap.size 85 iI _ 5 40 Tryz.underlying53 hiI hzI hsI hbI rfl (by decide) none 0 [] rfl (own_nil _ _ _ _) x.ca x.ccap (x.code.map Ins.cells) (by rw [List.length_map]; rfl) (hxl.1.later hbx.out) (len5 _) (one5 _) (by unfold maxLen; simp only [List.length_map, List.length_nil]; omega) (by simp only [List.length_map, List.length_nil]; omega) hbx.out.size ?_); intro ca cc w1 ho1 hk1 hB1 hbl1; simp only [List.nil_append, List.length_map] at ho1 ⊢;
              (have u0 : Hid (w1.heap[wr.heap.size]? = some (objF x)) := (hk1 _ (by rw [hz2.out]; omega) (by simp [blk])).trans (two_first _ _ _));
              (have u1 : Hid (w1.heap[wr.heap.size + 1]? = some (objG x)) := (hk1 _ (by rw [hz2.out]; omega) (by simp [blk])).trans (two_second _ _ _));
              (have a3 := whole_cell u0.out 3 _ rfl);
              (have o2 := whole_cell u1.out 2 _ rfl);
              (have fz2 := whole_frozen u1.out 2);
              (have hst2 := ISt.start st ho1 hk1 hB1 hbl1);
              clear c0 c1 c2 c3 hix))
      clear a3 o2 fz2 u0 u1 hk1 hB1 hbl1 ho1 hz2 hbx hlx hxs1 st
      generalize wr.heap.size = F at *
      generalize w1.setCell ⟨F + 1, 2, none⟩ (.slice ca x.code.length cc) = W1 at *
      clear wr
      go_loopw [47] (fun u wr => ∃ (q : Nat) (g : MFn), q ≤ x.sels.length ∧ u = .int .i64 q ∧ ISt M w k N x F q g wr) (fun u _ => x.sels.length - (intOf u).toNat)
      case atStart => exact ⟨0, _, Nat.zero_le _, rfl, hst2⟩
      case round =>
        clear hst2
        obtain ⟨q, g, hq, rfl, st⟩ := hrel
        have hgl : Hid (g.sels.length = q) := by have h := congrArg List.length st.es; rw [List.length_map, List.length_map, List.length_take, Nat.min_eq_left hq] at h; exact h
        by_cases hlt2 : q < x.sels.length
        · obtain ⟨y, hy, hym⟩ := get_lt x.sels q hlt2
          obtain ⟨bx, ox, hix, _, c0, c1⟩ := sel_ix (hxl.later st.o.be).2.1 q y hy
          have hyl := hxl.2.2.2.1 y hym
          have hys := hxs.2.2 y hym
          unfold MSel.sz at hys
          have hxs2 := hxs.2.1
          have hly := rows_len hyl.1
          have hqlI : (q : Int) < (x.sels.length : Int) := by omega
          have hbx : Hid (Below w.heap.size w ((wr.alloc (objS y)).alloc (objT y))) := bthen st.o.be (boxed2 wr _ _)
          have hz2 : Hid (((wr.alloc (objS y)).alloc (objT y)).heap.size = wr.heap.size + 1 + 1) := two_size _ _ _
          go_wp2_with (first
            | (at_builtin; (refine wpList_app rfl (.tmp 55) (.tmp 57) 57 rfl w.heap.size 101 iC _ 4 32 Tryz.underlying57 hiC hzC hsC hbC rfl (by decide) none 0 [] rfl (own_nil _ _ _ _) y.at_ y.cap (y.cases.map Cas.cells) (by rw [List.length_map]; rfl) (hyl.1.later hbx.out) (len4 _) (one4 _) (by unfold maxLen; simp only [List.length_map, List.length_nil]; omega) (by simp only [List.length_map, List.length_nil]; omega) hbx.out.size ?_); intro ca cc w1 ho1 hk1 hB1 hbl1; simp only [List.nil_append, List.length_map] at ho1 ⊢;
                  (have u1 : Hid (w1.heap[wr.heap.size + 1]? = some (objT y)) := (hk1 _ (by rw [hz2.out]; omega) (by simp [blk])).trans (two_second _ _ _));
                  (have ug : Hid (w1.heap[F + 1]? = some (objF g)) := (hk1 _ (by rw [hz2.out]; have := st.hi; omega) (by simp [blk])).trans ((two_old _ _ _ _ st.hi).trans st.bg));
                  (have o0 := whole_cell u1.out 0 _ rfl);
                  (have o1 := whole_cell u1.out 1 _ rfl);
                  (have fz0 := whole_frozen u1.out 0);
                  (have um : Hid ((w1.setCell ⟨wr.heap.size + 1, 0, none⟩ (.slice ca y.cases.length cc)).heap[F + 1]? = some (objF g)) := (heap_setCell_other _ _ _ _ (by have := st.hi; show F + 1 ≠ wr.heap.size + 1; omega)).trans ug.out);
                  (have G3 := whole_cell um.out 3 _ rfl);
                  (have hgo : Hid (OwnL ((w1.setCell ⟨wr.heap.size + 1, 0, none⟩ (.slice ca y.cases.length cc)).alloc (objS ⟨ca, cc, y.cases, y.els⟩)) w.heap.size 59 2 g.sa g.scap (g.sels.map MSel.cells)) := own_keep st.ow.2.1 fun b hb => by
                    have hbb := st.bd b (by simp [MFn.blocks, hb])
                    have hs1 : wr.heap.size + 1 + 1 ≤ w1.heap.size := by have := hB1.size; rw [hz2.out] at this; exact this
                    exact ((boxed _ _).block b (by rw [World.size_setCell]; omega)).trans ((heap_setCell_other _ _ _ _ (by show b ≠ wr.heap.size + 1; omega)).trans ((hk1 b (by rw [hz2.out]; omega) (by simp [blk])).trans (two_old _ _ _ _ hbb.2))));
                  (have hrow : Hid (Rows ((w1.setCell ⟨wr.heap.size + 1, 0, none⟩ (.slice ca y.cases.length cc)).alloc (objS ⟨ca, cc, y.cases, y.els⟩)) 2 (some ⟨w1.heap.size, 0, none⟩) 1 [MSel.cells ⟨ca, cc, y.cases, y.els⟩]) := rows_one (by have := heap_alloc_new (w1.setCell ⟨wr.heap.size + 1, 0, none⟩ (.slice ca y.cases.length cc)) (objS ⟨ca, cc, y.cases, y.els⟩); rw [World.size_setCell] at this; exact this) rfl);
                  (have hbs : Hid (w.heap.size ≤ ((w1.setCell ⟨wr.heap.size + 1, 0, none⟩ (.slice ca y.cases.length cc)).alloc (objS ⟨ca, cc, y.cases, y.els⟩)).heap.size) := by have := hB1.size; have := hbx.out.size; simp only [Hid, World.size_alloc, World.size_setCell] at *; omega);
                  clear c0 c1 hix)
            | (at_builtin; (refine wpList_app rfl (.tmp 61) (.tmp 63) 54 rfl w.heap.size 59 iS _ 2 32 Tryz.underlying54 hiS hzS hsS hbS rfl (by decide) g.sa g.scap (g.sels.map MSel.cells) (by rw [List.length_map]; rfl) hgo.out (some ⟨w1.heap.size, 0, none⟩) 1 [MSel.cells ⟨ca, cc, y.cases, y.els⟩] rfl hrow.out (len2s [⟨ca, cc, y.cases, y.els⟩]) (one2s [⟨ca, cc, y.cases, y.els⟩]) (by have := hgl.out; unfold maxLen; simp only [List.length_map, List.length_singleton]; omega) (by have := hgl.out; simp only [List.length_map, List.length_singleton]; omega) hbs.out ?_); intro va' vc' w2 ho2 hk2 hB2 hbl2; simp only [List.length_append, List.length_map, List.length_singleton] at ⊢;
                  (have vg : Hid (w2.heap[F + 1]? = some (objF g)) := by
                    have hs1 : wr.heap.size + 1 + 1 ≤ w1.heap.size := by have := hB1.size; rw [hz2.out] at this; exact this
                    have hhi := st.hi
                    exact (hk2 (F + 1) (by rw [World.size_alloc, World.size_setCell]; omega) (fun hh => by have := st.bd (F + 1) (by simp [MFn.blocks, hh]); omega)).trans (((boxed _ _).block (F + 1) (by rw [World.size_setCell]; omega)).trans um.out));
                  (have o3 := whole_cell vg.out 3 _ rfl);
                  (have fz3 := whole_frozen vg.out 3);
                  clear o0 o1 fz0 G3))
          go_roundw
          case rel => exact ⟨q + 1, _, by omega, by go_num, ISt.step st hy ho1 hk1 hB1 hbl1 rfl ho2 hk2 hB2 hbl2⟩
          case measure => simp [intOf]; omega
        · have hq2 : q = x.sels.length := by omega
          subst hq2
          have e3 := whole_cell st.o.b2 3 _ rfl
          have f0 := whole_cell st.bg 0 _ rfl
          have f1 := whole_cell st.bg 1 _ rfl
          have f2 := whole_cell st.bg 2 _ rfl
          have f3 := whole_cell st.bg 3 _ rfl
          have hNl : Hid (N.fns.length = k) := by have h := congrArg List.length st.o.ef; rw [List.length_map, List.length_map, List.length_take, Nat.min_eq_left hk] at h; exact h
          have hgo : Hid (OwnL (wr.alloc (objF g)) w.heap.size 56 4 N.fa N.fcap (N.fns.map MFn.cells)) := own_keep st.o.ow.2.2.1 fun b hb => (boxed _ _).block b (st.o.bd b (by simp [MPr.blocks, hb])).2
          have hrow : Hid (Rows (wr.alloc (objF g)) 4 (some ⟨wr.heap.size, 0, none⟩) 1 [MFn.cells g]) := rows_one (heap_alloc_new wr (objF g)) rfl
          have hbs : Hid (w.heap.size ≤ (wr.alloc (objF g)).heap.size) := by have := st.o.be.size; simp only [Hid, World.size_alloc]; omega
          go_wp2_with (first
            | (at_builtin; (refine wpList_app rfl (.tmp 68) (.tmp 70) 24 rfl w.heap.size 56 iF _ 4 64 Tryz.underlying24 hiF hzF hsF hbF rfl (by decide) N.fa N.fcap (N.fns.map MFn.cells) (by rw [List.length_map]; rfl) hgo.out (some ⟨wr.heap.size, 0, none⟩) 1 [MFn.cells g] rfl hrow.out (len4f [g]) (one4f [g]) (by have := hNl.out; unfold maxLen; simp only [List.length_map, List.length_singleton]; omega) (by have := hNl.out; simp only [List.length_map, List.length_singleton]; omega) hbs.out ?_); intro va' vc' w2 ho2 hk2 hB2 hbl2; simp only [List.length_append, List.length_map, List.length_singleton] at ⊢;
                  (have vg : Hid (w2.heap[w.heap.size + 1 + 1]? = some (objP N)) := by
                    have h3 := st.o.three
                    exact (hk2 (w.heap.size + 1 + 1) (by rw [World.size_alloc]; omega) (fun hh => by have := st.o.bd (w.heap.size + 1 + 1) (by simp [MPr.blocks, hh]); omega)).trans (((boxed _ _).block (w.heap.size + 1 + 1) h3).trans st.o.b2));
                  (have o3 := whole_cell vg.out 3 _ rfl);
                  (have fz3 := whole_frozen vg.out 3);
                  clear e3 f0 f1 f2 f3))
          go_roundw
          case rel => exact ⟨k + 1, _, by omega, by go_num, OSt.step st hx rfl ho2 hk2 hB2 hbl2⟩
          case measure => simp [intOf]; omega
    · have hk2 : k = M.fns.length := by omega
      subst hk2
      have e0 := whole_cell st.b2 0 _ rfl
      have e1 := whole_cell st.b2 1 _ rfl
      have e2 := whole_cell st.b2 2 _ rfl
      have e3 := whole_cell st.b2 3 _ rfl
      have f0 := whole_cell st.b1 0 _ rfl
      have f1 := whole_cell st.b1 1 _ rfl
      have f2 := whole_cell st.b1 2 _ rfl
      have f3 := whole_cell st.b1 3 _ rfl
      have z0 := whole_frozen st.b1 0
      have z1 := whole_frozen st.b1 1
      have z2 := whole_frozen st.b1 2
      have z3 := whole_frozen st.b1 3
      go_wp2
      have kf : ∀ b, b ≠ w.heap.size + 1 → ((((wr.setCell ⟨w.heap.size + 1, 0, none⟩ (.slice N.va N.vars.length N.vcap)).setCell ⟨w.heap.size + 1, 1, none⟩ (.int .i64 N.locks)).setCell ⟨w.heap.size + 1, 2, none⟩ (.slice N.cha N.chans.length N.chcap)).setCell ⟨w.heap.size + 1, 3, none⟩ (.slice N.fa N.fns.length N.fcap)).heap[b]? = wr.heap[b]? := fun b hb =>
        (heap_setCell_other _ _ _ _ hb).trans ((heap_setCell_other _ _ _ _ hb).trans ((heap_setCell_other _ _ _ _ hb).trans (heap_setCell_other _ _ _ _ hb)))
      have r1 := set4 _ _ 0 _ _ (.slice N.va N.vars.length N.vcap) st.b1
      have r2 := set4 _ _ 1 _ _ (.int .i64 N.locks) r1
      have r3 := set4 _ _ 2 _ _ (.slice N.cha N.chans.length N.chcap) r2
      have r4 := set4 _ _ 3 _ _ (.slice N.fa N.fns.length N.fcap) r3
      have s0 := whole_cell r4 0 (.slice N.va N.vars.length N.vcap) rfl
      have s1 := whole_cell r4 1 (.int .i64 N.locks) rfl
      have s2 := whole_cell r4 2 (.slice N.cha N.chans.length N.chcap) rfl
      have s3 := whole_cell r4 3 (.slice N.fa N.fns.length N.fcap) rfl
      have hbe : Below w.heap.size w ((((wr.setCell ⟨w.heap.size + 1, 0, none⟩ (.slice N.va N.vars.length N.vcap)).setCell ⟨w.heap.size + 1, 1, none⟩ (.int .i64 N.locks)).setCell ⟨w.heap.size + 1, 2, none⟩ (.slice N.cha N.chans.length N.chcap)).setCell ⟨w.heap.size + 1, 3, none⟩ (.slice N.fa N.fns.length N.fcap)) :=
        (((st.be.setCell (Nat.le_succ _) _).setCell (Nat.le_succ _) _).setCell (Nat.le_succ _) _).setCell (Nat.le_succ _) _
      have hef := st.ef
      rw [List.take_length] at hef
      refine bodyPost_ret (v := N.val) ?_ rfl ⟨N, rfl, ⟨st.ev, st.el, st.ec, hef, st.ow.keep fun b hb => kf b (by have := st.bd b hb; omega), st.nd⟩, hbe⟩
      clear hbe kf r1 r2 r3 r4 e0 e1 e2 e3 f0 f1 f2 f3 z0 z1 z2 z3
      simp [results, Tryz.results5, go_sem, s0, s1, s2, s3, MPr.val]
end Go.Proofs.YtonkcnaijcpfdaaGreatDoor.pg
