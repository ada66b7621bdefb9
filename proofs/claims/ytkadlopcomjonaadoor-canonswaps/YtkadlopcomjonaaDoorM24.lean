/- How package order compares two edges. -/
import Derived.Test.YtkadlopcomjonaaDoorM17
namespace Go.Proofs.YtkadlopcomjonaaDoor.pg
open Go.ChangeShapes Go.WideShapes Go.ChangeAt Go.RowKit Go.Shelf
set_option linter.unusedVariables false
set_option linter.unusedSimpArgs false
set_option maxRecDepth 100000
attribute [local go_sem ↓] Go.wp_at_zero Go.wp_at_succ
def cmp2 (a b : Nat × Nat) : Int := if cmpP a.1 b.1 = 0 then cmpP a.2 b.2 else cmpP a.1 b.1
theorem cmpP_val (a b : Int) : cmpP a b = -1 ∧ a < b ∨ cmpP a b = 0 ∧ a = b ∨ cmpP a b = 1 ∧ b < a := by
  unfold cmpP
  split
  · exact .inl ⟨rfl, by assumption⟩
  · split
    · exact .inr (.inr ⟨rfl, by omega⟩)
    · exact .inr (.inl ⟨rfl, by omega⟩)
abbrev objEdge (p : Nat × Nat) : Obj := .cells #[.int .i64 (p.1 : Int), .int .i64 (p.2 : Int)] 122
theorem sub2 (B : Nat) : ∀ wx, (Instr.sliceAt 122 (.pointer (some ⟨B, 0, none⟩)) none none none).run Tryd.prog wx = .ok (.slice (some ⟨B, 0, none⟩) 2 2) wx := by
  intro wx
  have u := Tryd.underlying122
  have z := Tryd.sizeOf3
  simp [Instr.sliceAt, run_underlying u, asIntOf, go_sem, z]
end Go.Proofs.YtkadlopcomjonaaDoor.pg

