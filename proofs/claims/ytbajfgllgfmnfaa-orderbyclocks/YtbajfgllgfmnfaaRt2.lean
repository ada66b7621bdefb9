/- When an event may stand in a trace, by package depend. -/
import Derived.Test.YtbajfgllgfmnfaaRt1
import Derived.Deep.DeepCutAuto
namespace Go.Proofs.Ytbajfgllgfmnfaa.pg
open Go.ChangeShapes Go.WideShapes Go.ChangeAt Go.RowKit
set_option linter.unusedVariables false
set_option linter.unusedSimpArgs false
set_option maxRecDepth 100000
attribute [local go_sem ↓] Go.wp_at_zero Go.wp_at_succ
abbrev acc0 : Acc := ⟨0, 0, false⟩
/-- An access that there may be, behind the one ahead of it. -/
def okA (l : List Acc) (i : Nat) : Prop := ∀ a, l[i]? = some a → (0 ≤ a.num ∧ a.num < manyP a.kind) ∧ (0 < i → ∀ b, l[i - 1]? = some b → bef b a = true)
/-- An event may stand in a trace. -/
def rightP (x : Ev) : Prop := (0 ≤ x.go ∧ x.go < 6 ∧ 1 ≤ x.n ∧ x.n ≤ 6) ∧ (∀ i, i < tN x.n → okA x.list i) ∧ (∀ a ∈ x.list.drop (tN x.n), a = acc0) ∧ (⟨5, x.go, true⟩ : Acc) ∈ x.of
theorem tN_eq {n : Int} (h1 : 1 ≤ n) (h2 : n ≤ 6) : ((tN n : Nat) : Int) = n := by rw [tN_int, Int.max_def, Int.min_def]; split <;> split <;> omega
theorem of_at {x : Ev} {i : Nat} (h : i < tN x.n) : x.of[i]? = x.list[i]? := by unfold Ev.of; rw [List.getElem?_take, if_pos h]
theorem right_no1 (x : Ev) (w : World) (hno : x.go < 0 ∨ 6 ≤ x.go ∨ x.n < 1 ∨ 6 < x.n) : Calls Try.prog 55 #[x.val] w fun e w' => e = .returned (.bool false) ∧ Below w.heap.size w w' := by
  by_cases h0 : x.go < 0
  · clear hno
    go_enter Try.func55, Try.ntmps55
    go_wp2
    go_ret
    exact ⟨rfl, boxed _ _⟩
  · by_cases h1 : 6 ≤ x.go
    · clear hno
      go_enter Try.func55, Try.ntmps55
      go_wp2
      go_ret
      exact ⟨rfl, boxed _ _⟩
    · by_cases h2 : x.n < 1
      · clear hno
        go_enter Try.func55, Try.ntmps55
        go_wp2
        go_ret
        exact ⟨rfl, boxed _ _⟩
      · have h3 : 6 < x.n := by omega
        clear hno
        go_enter Try.func55, Try.ntmps55
        go_wp2
        go_ret
        exact ⟨rfl, boxed _ _⟩
/-- The slices of an event's accesses. -/
theorem slice_two (B N : Nat) (h1 : 1 ≤ N) (h2 : N ≤ 6) : (∀ wx, (Instr.sliceAt 64 (.pointer (some ⟨B, 7, none⟩)) none (some (.int .i64 (N : Int))) none).run Try.prog wx = .ok (.slice (some ⟨B, 7, none⟩) N 6) wx) ∧
    ∃ ra, (∀ wx, (Instr.sliceAt 64 (.pointer (some ⟨B, 7, none⟩)) (some (.int .i64 (N : Int))) none none).run Try.prog wx = .ok (.slice (some ra) (6 - N) (6 - N)) wx) ∧ (N < 6 → ra = ⟨B, 7 + N * 3, none⟩) := by
  have u := Try.underlying64
  have z := Try.sizeOf63
  have h6 : N = 1 ∨ N = 2 ∨ N = 3 ∨ N = 4 ∨ N = 5 ∨ N = 6 := by omega
  rcases h6 with rfl | rfl | rfl | rfl | rfl | rfl
  case inr.inr.inr.inr.inr => exact ⟨fun wx => by simp [Instr.sliceAt, run_underlying u, asIntOf, go_sem, z], ⟨B, 7, none⟩, fun wx => by simp [Instr.sliceAt, run_underlying u, asIntOf, go_sem, z], fun h => by omega⟩
  all_goals exact ⟨fun wx => by simp [Instr.sliceAt, run_underlying u, asIntOf, go_sem, z], _, fun wx => by simp [Instr.sliceAt, run_underlying u, asIntOf, go_sem, z], fun _ => rfl⟩
theorem rows_rest {w : World} {B N : Nat} {x : Ev} {ra : Addr} (h : BoxE w B x) (h2 : N ≤ 6) (hra : N < 6 → ra = ⟨B, 7 + N * 3, none⟩) : Rows w 3 (some ra) (6 - N) ((x.list.drop N).map Acc.cells) := by
  have hl : x.list.length = 6 := rfl
  refine ⟨by rw [List.length_map, List.length_drop, hl]; exact Nat.le_refl _, by omega, by simp, ?_⟩
  by_cases e : N = 6
  · left; subst e; rfl
  · right
    refine ⟨B, 7 + N * 3, by rw [hra (by omega)], World.block_lt_of_cell? _ _ h.1, fun i row hi => ?_⟩
    rw [List.getElem?_map, Option.map_eq_some_iff] at hi
    obtain ⟨a, ha, rfl⟩ := hi
    rw [List.getElem?_drop] at ha
    refine ⟨rfl, fun j u hj => ?_⟩
    have := x.list_at h (N + i) a ha j u hj
    rw [show 7 + N * 3 + (i * 3 + j) = 7 + ((N + i) * 3 + j) by omega]
    exact this
end Go.Proofs.Ytbajfgllgfmnfaa.pg
