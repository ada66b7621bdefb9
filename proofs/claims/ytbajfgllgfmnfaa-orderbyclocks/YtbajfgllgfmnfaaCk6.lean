/- The document's own Join, Meet, Le, Cmp; Tick, by both; what is wrong with two clocks. -/
import Derived.Test.YtbajfgllgfmnfaaCk5
namespace Go.Proofs.Ytbajfgllgfmnfaa.pg
open Go.ChangeShapes Go.WideShapes Go.ChangeAt Go.RowKit
set_option linter.unusedVariables false
set_option linter.unusedSimpArgs false
set_option maxRecDepth 100000
attribute [local go_sem ↓] Go.wp_at_zero Go.wp_at_succ
theorem Mix.later {w wr wr' : World} {n B C k : Nat} {M X : Ck} (h : Mix w n B C M X k wr) (hb : Below wr.heap.size wr wr') (hn : n ≤ wr.heap.size) : Mix w n B C M X k wr' := by
  obtain ⟨z, hz, hl⟩ := h.zz
  exact ⟨h.be.trans (hb.mono hn), ⟨z, hz.later hb, hl⟩, h.rs.later hb⟩
end Go.Proofs.Ytbajfgllgfmnfaa.pg
