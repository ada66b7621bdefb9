/- What is copied lies there, and is the same. -/
import Derived.Test.YtaghfahhfockkaaCp5
namespace Go.Proofs.Ytaghfahhfockkaa.pg
open Go.ChangeShapes Go.WideShapes Go.ChangeAt Go.RowKit
set_option linter.unusedVariables false
theorem Copied.pr {M N : MPr} {w : World} {lo : Nat} (h : Copied M N w lo) : M.pr = N.pr := by
  unfold MPr.pr
  rw [h.1, h.2.1, h.2.2.1, h.2.2.2.1]
theorem fn_lies {w w0 : World} {lo : Nat} {f g : MFn} (ho : f.own w lo) (he : g.fn = f.fn) (hg : g.lies w0) : f.lies w := by
  have e1 : g.params = f.params := congrArg Fn.params he
  have e2 : g.regs = f.regs := congrArg Fn.regs he
  have e3 : g.code = f.code := congrArg Fn.code he
  have e4 : g.sels.map MSel.sel = f.sels.map MSel.sel := congrArg Fn.sels he
  refine ⟨own_rows ho.1 (len5 _), own_rows ho.2.1 (len2s _), e3 ▸ hg.2.2.1, fun s hs => ?_, e1 ▸ hg.2.2.2.2.1, e2 ▸ hg.2.2.2.2.2⟩
  have : s.sel ∈ g.sels.map MSel.sel := by rw [e4]; exact List.mem_map_of_mem hs
  obtain ⟨s', hs', hq⟩ := List.mem_map.mp this
  have q1 : s'.cases = s.cases := congrArg Sel.cases hq
  have q2 : s'.els = s.els := congrArg Sel.els hq
  have hl := hg.2.2.2.1 s' hs'
  exact ⟨own_rows (ho.2.2 s hs) (len4 _), q1 ▸ hl.2.1, q2 ▸ hl.2.2⟩
theorem Copied.lies {M N : MPr} {w w0 : World} {lo : Nat} (h : Copied M N w lo) (hl : M.lies w0) : N.lies w := by
  obtain ⟨ev, el, ec, ef, ⟨o1, o2, o3, o4⟩, _⟩ := h
  refine ⟨own_rows o1 (len2 _), own_rows o2 (len1 _), own_rows o3 (len4f _), ev ▸ hl.2.2.2.1, el ▸ hl.2.2.2.2.1, ec ▸ hl.2.2.2.2.2.1, fun f hf => ?_⟩
  have : f.fn ∈ M.fns.map MFn.fn := by rw [← ef]; exact List.mem_map_of_mem hf
  obtain ⟨g, hg, hq⟩ := List.mem_map.mp this
  exact fn_lies (o4 f hf) hq (hl.2.2.2.2.2.2 g hg)
end Go.Proofs.Ytaghfahhfockkaa.pg
