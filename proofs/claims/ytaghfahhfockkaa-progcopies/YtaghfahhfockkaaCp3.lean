/- The states that the making of a copy goes through. -/
import Derived.Test.YtaghfahhfockkaaCp1
namespace Go.Proofs.Ytaghfahhfockkaa.pg
open Go.ChangeShapes Go.WideShapes Go.ChangeAt Go.RowKit
set_option linter.unusedVariables false
set_option linter.unusedSimpArgs false
/-- N is M, in memory of its own. -/
def Copied (M N : MPr) (w : World) (lo : Nat) : Prop := N.vars = M.vars ∧ N.locks = M.locks ∧ N.chans = M.chans ∧ N.fns.map MFn.fn = M.fns.map MFn.fn ∧ N.own w lo ∧ N.blocks.Nodup
theorem le2 (n : Nat) : n ≤ n + 1 + 1 := by omega
theorem ne2 (n : Nat) : n ≠ n + 1 + 1 := by omega
theorem ne1 (n : Nat) : n + 1 ≠ n + 1 + 1 := by omega
abbrev objO (va : Option Addr) (vn vc : Nat) (k : Int) (ha : Option Addr) (hn hc : Nat) (fa : Option Addr) (fn fc : Nat) : Obj := .cells #[.slice va vn vc, .int .i64 k, .slice ha hn hc, .slice fa fn fc] 26
abbrev objN : Obj := objO none 0 0 0 none 0 0 none 0 0
abbrev objG (x : MFn) : Obj := .cells #[.int .i64 x.params, .int .i64 x.regs, .slice none 0 0, .slice none 0 0] 35
abbrev objT (y : MSel) : Obj := .cells #[.slice none 0 0, .int .i64 y.els] 39
theorem set4 (w : World) (b i : Nat) (cs : Array Value) (t : TypeId) (v : Value) (h : w.heap[b]? = some (.cells cs t (0, 0))) : (w.setCell ⟨b, i, none⟩ v).heap[b]? = some (.cells (cs.setIfInBounds i v) t (0, 0)) := heap_setCell_same w b i cs t v h
theorem below_keep {B : Nat} {a w w' : World} (h : Below B a w) (hB : B ≤ w.heap.size) (k : Below (min B w.heap.size) w w') : Below B a w' := h.trans (k.mono (by omega))
structure OSt (M : MPr) (w : World) (k : Nat) (N : MPr) (wr : World) : Prop where
  be : Below w.heap.size w wr
  b0 : wr.heap[w.heap.size]? = some (objP M)
  b1 : wr.heap[w.heap.size + 1]? = some objN
  b2 : wr.heap[w.heap.size + 1 + 1]? = some (objP N)
  ev : N.vars = M.vars
  el : N.locks = M.locks
  ec : N.chans = M.chans
  ef : N.fns.map MFn.fn = (M.fns.take k).map MFn.fn
  ow : N.own wr w.heap.size
  nd : N.blocks.Nodup
  bd : ∀ b ∈ N.blocks, w.heap.size + 3 ≤ b ∧ b < wr.heap.size
structure ISt (M : MPr) (w : World) (k : Nat) (N : MPr) (x : MFn) (F q : Nat) (g : MFn) (wr : World) : Prop where
  o : OSt M w k N wr
  hN : ∀ b ∈ N.blocks, b < F
  lo : w.heap.size + 3 ≤ F
  hi : F + 1 < wr.heap.size
  bf : wr.heap[F]? = some (objF x)
  bg : wr.heap[F + 1]? = some (objF g)
  ep : g.params = x.params
  er : g.regs = x.regs
  ec : g.code = x.code
  es : g.sels.map MSel.sel = (x.sels.take q).map MSel.sel
  ow : g.own wr w.heap.size
  nd : g.blocks.Nodup
  bd : ∀ b ∈ g.blocks, F + 1 < b ∧ b < wr.heap.size
/-- Behind anything that leaves all these blocks as they were. -/
theorem OSt.keep {M : MPr} {w : World} {k : Nat} {N : MPr} {wr w' : World} (st : OSt M w k N wr) (hbe : Below w.heap.size w w') (hsz : wr.heap.size ≤ w'.heap.size) (h3 : w.heap.size + 1 + 1 < wr.heap.size) (hk : ∀ b, b < wr.heap.size → (b ∈ N.blocks ∨ b < w.heap.size + 3) → w'.heap[b]? = wr.heap[b]?) : OSt M w k N w' :=
  ⟨hbe, (hk _ (by omega) (.inr (by omega))).trans st.b0, (hk _ (by omega) (.inr (by omega))).trans st.b1, (hk _ (by omega) (.inr (by omega))).trans st.b2, st.ev, st.el, st.ec, st.ef, st.ow.keep fun g hg => hk g (st.bd g hg).2 (.inl hg), st.nd, fun b hb => ⟨(st.bd b hb).1, Nat.lt_of_lt_of_le (st.bd b hb).2 hsz⟩⟩
theorem OSt.three {M : MPr} {w : World} {k : Nat} {N : MPr} {wr : World} (st : OSt M w k N wr) : w.heap.size + 1 + 1 < wr.heap.size := (Array.getElem?_eq_some_iff.mp st.b2).1
theorem two_size (wr : World) (o1 o2 : Obj) : ((wr.alloc o1).alloc o2).heap.size = wr.heap.size + 1 + 1 := by rw [World.size_alloc, World.size_alloc]
theorem two_first (wr : World) (o1 o2 : Obj) : ((wr.alloc o1).alloc o2).heap[wr.heap.size]? = some o1 := ((boxed (wr.alloc o1) o2).block _ (by rw [World.size_alloc]; omega)).trans (heap_alloc_new wr o1)
theorem two_second (wr : World) (o1 o2 : Obj) : ((wr.alloc o1).alloc o2).heap[wr.heap.size + 1]? = some o2 := by
  have := heap_alloc_new (wr.alloc o1) o2
  rwa [World.size_alloc] at this
theorem two_old (wr : World) (o1 o2 : Obj) (b : Nat) (h : b < wr.heap.size) : ((wr.alloc o1).alloc o2).heap[b]? = wr.heap[b]? := (boxed2 wr o1 o2).block b h
/-- A function's copy begun: its code is laid. -/
theorem ISt.start {M : MPr} {w : World} {k : Nat} {N : MPr} {wr : World} {x : MFn} {ca : Option Addr} {cc : Nat} {w1 : World} (st : OSt M w k N wr)
    (ho : OwnL w1 w.heap.size 47 5 ca cc (x.code.map Ins.cells)) (hk : ∀ b, b < ((wr.alloc (objF x)).alloc (objG x)).heap.size → b ∉ blk none → w1.heap[b]? = ((wr.alloc (objF x)).alloc (objG x)).heap[b]?)
    (hB : Below (min w.heap.size ((wr.alloc (objF x)).alloc (objG x)).heap.size) ((wr.alloc (objF x)).alloc (objG x)) w1) (hbl : blk ca = blk none ∨ blk ca = [((wr.alloc (objF x)).alloc (objG x)).heap.size]) :
    ISt M w k N x wr.heap.size 0 ⟨x.params, x.regs, ca, cc, x.code, none, 0, []⟩ (w1.setCell ⟨wr.heap.size + 1, 2, none⟩ (.slice ca x.code.length cc)) := by
  have h3 := st.three
  have hz := two_size wr (objF x) (objG x)
  have hs1 : wr.heap.size + 1 + 1 ≤ w1.heap.size := by have := hB.size; rw [hz] at this; exact this
  have hbe : Below w.heap.size w w1 := below_keep (bthen st.be (boxed2 wr _ _)) (by rw [hz]; have := st.be.size; omega) hB
  have hk' : ∀ b, b < wr.heap.size → w1.heap[b]? = wr.heap[b]? := fun b hb => (hk b (by rw [hz]; omega) (by simp [blk])).trans (two_old wr _ _ b hb)
  have hf : w1.heap[wr.heap.size]? = some (objF x) := (hk _ (by rw [hz]; omega) (by simp [blk])).trans (two_first wr _ _)
  have hg : w1.heap[wr.heap.size + 1]? = some (objG x) := (hk _ (by rw [hz]; omega) (by simp [blk])).trans (two_second wr _ _)
  have hsz : (w1.setCell ⟨wr.heap.size + 1, 2, none⟩ (.slice ca x.code.length cc)).heap.size = w1.heap.size := World.size_setCell _ _ _
  have hoth : ∀ b, b ≠ wr.heap.size + 1 → (w1.setCell ⟨wr.heap.size + 1, 2, none⟩ (.slice ca x.code.length cc)).heap[b]? = w1.heap[b]? := fun b hb => heap_setCell_other _ _ _ _ hb
  have hcb : ∀ b ∈ blk ca, wr.heap.size + 1 < b ∧ b < w1.heap.size := fun b hb => by
    have h1 := (blk_lt ho b hb).2
    rcases hbl with q | q
    · rw [q] at hb; simp [blk] at hb
    · rw [q, hz] at hb; simp at hb; omega
  refine ⟨st.keep (hbe.setCell (by show w.heap.size ≤ wr.heap.size + 1; omega) _) (by rw [hsz]; omega) h3 (fun b hb _ => (hoth b (by omega)).trans (hk' b hb)), fun b hb => (st.bd b hb).2, by omega, by rw [hsz]; omega, (hoth _ (by omega)).trans hf, set4 _ _ _ _ _ _ hg, rfl, rfl, rfl, by simp, ⟨own_keep ho (fun b hb => hoth b (by have := hcb b hb; omega)), own_nil _ _ _ _, by simp⟩, ?_, fun b hb => ?_⟩
  · simp only [MFn.blocks, MFn.rest, blk, List.flatMap_nil, List.append_nil, List.nil_append]
    cases ca <;> simp
  · have : b ∈ blk ca := by simpa [MFn.blocks, MFn.rest, blk] using hb
    rw [hsz]
    exact hcb b this
end Go.Proofs.Ytaghfahhfockkaa.pg
