/- Elements of a program's lists: what an index gives, and the cells there. -/
import Derived.Test.YtbajfgllgfmnfaaPgIn
namespace Go.Proofs.Ytbajfgllgfmnfaa.pg
open Go.ChangeShapes Go.WideShapes Go.ChangeAt Go.RowKit
set_option linter.unusedVariables false
theorem Rows.ix {w : World} {k : Nat} {a : Option Addr} {cap : Nat} {L : List (List Value)} (h : Rows w k a cap L) (t e : TypeId) (hu : Try.prog.underlying t = some (.slice e)) (he : Try.prog.elem t = e) (hs : ∀ wx, (sizeOf e).run Try.prog wx = .ok k wx)
    (i : Nat) {row : List Value} (hi : L[i]? = some row) :
    ∃ b o, (∀ wx, (Instr.indexAt t (.slice a L.length cap) (.int .i64 (i : Int))).run Try.prog wx = .ok (.pointer (some ⟨b, o, none⟩)) wx) ∧ b < w.heap.size ∧ ∀ j u, row[j]? = some u → w.cell? ⟨b, o + j, none⟩ = some u := by
  obtain ⟨b, off, ha, hlt, hc⟩ := h.row hi
  have hil : i < L.length := (List.getElem?_eq_some_iff.mp hi).1
  refine ⟨b, off + i * k, fun wx => ?_, hlt, fun j u hj => by rw [Nat.add_assoc]; exact hc j u hj⟩
  subst he
  rw [ha, run_indexAt_slice wx t ⟨b, off, none⟩ _ _ _ _ hu, if_pos (by omega), hs wx]
  simp only [Int.toNat_natCast]
  show Result.ok (Value.pointer (some ((⟨b, off, none⟩ : Addr).add (i * k)))) wx = _
  rw [add_none]
theorem ch_ix {w : World} {a : Option Addr} {cap : Nat} {l : List Int} (h : Rows w 1 a cap (l.map chCells)) (i : Nat) (x : Int) (hi : l[i]? = some x) :
    ∃ b o, (∀ wx, (Instr.indexAt 30 (.slice a l.length cap) (.int .i64 (i : Int))).run Try.prog wx = .ok (.pointer (some ⟨b, o, none⟩)) wx) ∧ b < w.heap.size ∧ w.cell? ⟨b, o, none⟩ = some (.int .i64 x) := by
  obtain ⟨b, o, hr, hlt, hc⟩ := h.ix 30 3 Try.underlying30 (by kernel_rfl) (fun wx => Try.sizeOf3 wx) i (row := chCells x) (by simp [hi])
  rw [List.length_map] at hr
  exact ⟨b, o, hr, hlt, hc 0 _ rfl⟩
end Go.Proofs.Ytbajfgllgfmnfaa.pg
