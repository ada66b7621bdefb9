/- The contract of the statements' own little programs: one that is right, one that is not. -/
import Derived.Test.YtaghfahhfockkaaDoorChk7
namespace Go.Proofs.YtaghfahhfockkaaDoor.pg
open Go.ChangeShapes Go.WideShapes Go.ChangeAt Go.RowKit
set_option linter.unusedVariables false
set_option linter.unusedSimpArgs false
set_option maxRecDepth 100000
theorem chk_least : chk insP ⟨[], 0, [], [⟨0, 0, [⟨45, 0, 0, 0, 0⟩], []⟩]⟩ = (0, 0, 0) := by decide
theorem chk_none : chk insP ⟨[], 0, [], []⟩ = (30, 0, 0) := by decide
/-- The least program, its instruction in block B, its function in block B + 1. -/
def least (B : Nat) : MPr := ⟨none, 0, [], 0, none, 0, [], some ⟨B + 1, 0, none⟩, 1, [⟨0, 0, some ⟨B, 0, none⟩, 1, [⟨45, 0, 0, 0, 0⟩], none, 0, []⟩]⟩
def empty : MPr := ⟨none, 0, [], 0, none, 0, [], none, 0, []⟩
theorem i64_0 : I64 0 := by unfold I64; decide
theorem rows_nil (w : World) (k : Nat) : Rows w k none 0 [] := ⟨by simp, by simp, by simp, .inl rfl⟩
theorem rows_lone {w : World} {k B : Nat} {row : List Value} (hk : row.length = k) (hB : B < w.heap.size) (h : ∀ j u, row[j]? = some u → w.cell? ⟨B, j, none⟩ = some u) : Rows w k (some ⟨B, 0, none⟩) 1 [row] := by
  refine ⟨by simp, by simp, by simp, .inr ⟨B, 0, rfl, hB, fun i r hr => ?_⟩⟩
  have hi : i = 0 := by have := (List.getElem?_eq_some_iff.mp hr).1; simp at this; omega
  subst hi
  simp at hr
  subst hr
  exact ⟨hk, fun j u hj => by rw [Nat.zero_mul, Nat.zero_add, Nat.zero_add]; exact h j u hj⟩
theorem empty_lies (w : World) : empty.lies w := ⟨rows_nil w 2, rows_nil w 1, rows_nil w 4, by simp [empty], i64_0, by simp [empty], by simp [empty]⟩
theorem least_lies {w : World} {B : Nat} (hB : B + 1 < w.heap.size) (h1 : ∀ j u, [Value.int .i64 45, .int .i64 0, .int .i64 0, .int .i64 0, .int .i64 0][j]? = some u → w.cell? ⟨B, j, none⟩ = some u)
    (h2 : ∀ j u, [Value.int .i64 0, .int .i64 0, .slice (some ⟨B, 0, none⟩) 1 1, .slice none 0 0][j]? = some u → w.cell? ⟨B + 1, j, none⟩ = some u) : (least B).lies w := by
  refine ⟨rows_nil w 2, rows_nil w 1, rows_lone rfl hB h2, by simp [least], i64_0, by simp [least], fun f hf => ?_⟩
  simp only [least, List.mem_singleton] at hf
  subst hf
  refine ⟨rows_lone rfl (by omega) h1, rows_nil w 2, fun x hx => ?_, by simp, i64_0, i64_0⟩
  simp only [List.mem_singleton] at hx
  subst hx
  unfold Ins.wf I64; decide
set_option maxHeartbeats 1000000 in
theorem small_any (w : World) (hF : prog.Forms w) : Calls Tryd.prog 11 #[] w fun e w' => e = .returned (.bool true) ∧ Below w.heap.size w w' := by
  have hz : (w.alloc (objI ⟨45, 0, 0, 0, 0⟩)).heap.size = w.heap.size + 1 := World.size_alloc _ _
  have hb := boxed3 w (objI ⟨45, 0, 0, 0, 0⟩) (.cells #[.int .i64 0, .int .i64 0, .slice (some ⟨w.heap.size, 0, none⟩) 1 1, .slice none 0 0] 40) (.cells #[.slice none 0 0, .int .i64 0, .slice none 0 0, .slice (some ⟨w.heap.size + 1, 0, none⟩) 1 1] 26)
  have h2 := boxed2 (w.alloc (objI ⟨45, 0, 0, 0, 0⟩)) (.cells #[.int .i64 0, .int .i64 0, .slice (some ⟨w.heap.size, 0, none⟩) 1 1, .slice none 0 0] 40) (.cells #[.slice none 0 0, .int .i64 0, .slice none 0 0, .slice (some ⟨w.heap.size + 1, 0, none⟩) 1 1] 26)
  have h3 := boxed ((w.alloc (objI ⟨45, 0, 0, 0, 0⟩)).alloc (.cells #[.int .i64 0, .int .i64 0, .slice (some ⟨w.heap.size, 0, none⟩) 1 1, .slice none 0 0] 40)) (.cells #[.slice none 0 0, .int .i64 0, .slice none 0 0, .slice (some ⟨w.heap.size + 1, 0, none⟩) 1 1] 26)
  have hcall1 : Calls Tryd.prog 22 #[.agg #[.slice none 0 0, .int .i64 0, .slice none 0 0, .slice (some ⟨w.heap.size + 1, 0, none⟩) 1 1]] (((w.alloc (objI ⟨45, 0, 0, 0, 0⟩)).alloc (.cells #[.int .i64 0, .int .i64 0, .slice (some ⟨w.heap.size, 0, none⟩) 1 1, .slice none 0 0] 40)).alloc (.cells #[.slice none 0 0, .int .i64 0, .slice none 0 0, .slice (some ⟨w.heap.size + 1, 0, none⟩) 1 1] 26)) _ :=
    check_any (least w.heap.size) _ (least_lies (by simp only [World.size_alloc]; omega)
      (fun j u hj => cell_later h2 ((World.cell?_alloc_at _ _ _ _ rfl).trans (by rw [← Array.getElem?_toList]; exact hj)))
      (fun j u hj => cell_later h3 ((World.cell?_alloc_at _ _ _ _ hz.symm).trans (by rw [← Array.getElem?_toList]; exact hj)))) (hF.later hb) 0 0 0 chk_least
  have hcall2 : ∀ wx, prog.Forms wx → Calls Tryd.prog 22 #[.agg #[.slice none 0 0, .int .i64 0, .slice none 0 0, .slice none 0 0]] wx _ := fun wx hx => check_any empty wx (empty_lies wx) hx 30 0 0 chk_none
  clear h2 h3 hz
  go_enter Tryd.func11, Tryd.ntmps11
  go_wp2_with (first | (go_at_call 22; (with_reducible refine hcall1.mono ?_); rintro e w2 ⟨rfl, hb2⟩; (have hb3 := bthen (bthen hb hb2) (boxed w2 (.cells #[.int .i64 0, .int .i64 0] 66)))) | (go_at_call 22; (with_reducible refine (hcall2 _ (hF.later hb3)).mono ?_); rintro e w4 ⟨rfl, hb4⟩))
  go_ret
  exact ⟨rfl, bthen (bthen hb3 hb4) (boxed _ _)⟩
end Go.Proofs.YtaghfahhfockkaaDoor.pg
