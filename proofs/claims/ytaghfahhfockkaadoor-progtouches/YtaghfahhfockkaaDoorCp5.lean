/- The contract of the statements' own Prog: a program in memory of its own. -/
import Derived.Test.YtaghfahhfockkaaDoorCp4
namespace Go.Proofs.YtaghfahhfockkaaDoor.pg
open Go.ChangeShapes Go.WideShapes Go.ChangeAt Go.RowKit
set_option linter.unusedVariables false
set_option linter.unusedSimpArgs false
set_option maxRecDepth 100000
theorem OSt.start {M : MPr} {w w2 : World} {va ha : Option Addr} {vc hc n1 : Nat} (hbe : Below w.heap.size w w2) (v0 : w2.heap[w.heap.size]? = some (objP M)) (v1 : w2.heap[w.heap.size + 1]? = some objN)
    (v2 : w2.heap[w.heap.size + 1 + 1]? = some (objO va M.vars.length vc M.locks none 0 0 none 0 0)) (ov : OwnL w2 w.heap.size 92 2 va vc (M.vars.map Vr.cells)) (oh : OwnL w2 w.heap.size 3 1 ha hc (M.chans.map chCells))
    (hva : ∀ b ∈ blk va, w.heap.size + 3 ≤ b ∧ b < n1) (hha : ∀ b ∈ blk ha, n1 ≤ b) (hn : w.heap.size + 3 ≤ n1) :
    OSt M w 0 ⟨va, vc, M.vars, M.locks, ha, hc, M.chans, none, 0, []⟩ (w2.setCell ⟨w.heap.size + 1 + 1, 2, none⟩ (.slice ha M.chans.length hc)) := by
  have kf : ∀ b, b ≠ w.heap.size + 1 + 1 → (w2.setCell ⟨w.heap.size + 1 + 1, 2, none⟩ (.slice ha M.chans.length hc)).heap[b]? = w2.heap[b]? := fun b hb => heap_setCell_other _ _ _ _ hb
  have hszf : (w2.setCell ⟨w.heap.size + 1 + 1, 2, none⟩ (.slice ha M.chans.length hc)).heap.size = w2.heap.size := World.size_setCell _ _ _
  have hb : MPr.blocks ⟨va, vc, M.vars, M.locks, ha, hc, M.chans, none, 0, []⟩ = blk va ++ blk ha := by simp [MPr.blocks, MPr.rest, blk]
  refine ⟨hbe.setCell (le2 _) _, (kf _ (by omega)).trans v0, (kf _ (by omega)).trans v1, ?_, rfl, rfl, rfl, by simp, ⟨own_keep ov fun b hb => kf b (by have := hva b hb; omega), own_keep oh fun b hb => kf b (by have := hha b hb; omega), own_nil _ _ _ _, by simp⟩, ?_, ?_⟩
  · have := set4 w2 (w.heap.size + 1 + 1) 2 _ _ (.slice ha M.chans.length hc) v2
    simpa [objP] using this
  · rw [hb]
    exact nodup_app (blk_nodup _) (blk_nodup _) fun b h1 h2 => by have := hva b h1; have := hha b h2; omega
  · intro b h
    rw [hb] at h
    rw [hszf]
    rcases List.mem_append.mp h with h | h
    · exact ⟨(hva b h).1, (blk_lt ov b h).2⟩
    · exact ⟨by have := hha b h; omega, (blk_lt oh b h).2⟩
theorem rows_one {w : World} {b k : Nat} {cs : List Value} {t : TypeId} (h : w.heap[b]? = some (.cells cs.toArray t (0, 0))) (hk : cs.length = k) : Rows w k (some ⟨b, 0, none⟩) 1 [cs] := by
  refine ⟨by simp, by omega, by simp, .inr ⟨b, 0, rfl, (Array.getElem?_eq_some_iff.mp h).1, fun i row hi => ?_⟩⟩
  cases i with
  | zero =>
    simp at hi
    subst hi
    refine ⟨hk, fun j u hj => ?_⟩
    have := whole_cell h j u (by simpa using hj)
    simpa using this
  | succ i => simp at hi
end Go.Proofs.YtaghfahhfockkaaDoor.pg
