/- Elements of a program's lists: what an index gives, and the cells there. -/
import Derived.Test.YtodkmmmbomoheabDoorPgIn
namespace Go.Proofs.YtodkmmmbomoheabDoor.pg
open Go.ChangeShapes Go.WideShapes Go.ChangeAt Go.RowKit
set_option linter.unusedVariables false
theorem Rows.ix {w : World} {k : Nat} {a : Option Addr} {cap : Nat} {L : List (List Value)} (h : Rows w k a cap L) (t e : TypeId) (hu : Tryd.prog.underlying t = some (.slice e)) (he : Tryd.prog.elem t = e) (hs : ∀ wx, (sizeOf e).run Tryd.prog wx = .ok k wx)
    (i : Nat) {row : List Value} (hi : L[i]? = some row) :
    ∃ b o, (∀ wx, (Instr.indexAt t (.slice a L.length cap) (.int .i64 (i : Int))).run Tryd.prog wx = .ok (.pointer (some ⟨b, o, none⟩)) wx) ∧ b < w.heap.size ∧ ∀ j u, row[j]? = some u → w.cell? ⟨b, o + j, none⟩ = some u := by
  obtain ⟨b, off, ha, hlt, hc⟩ := h.row hi
  have hil : i < L.length := (List.getElem?_eq_some_iff.mp hi).1
  refine ⟨b, off + i * k, fun wx => ?_, hlt, fun j u hj => by rw [Nat.add_assoc]; exact hc j u hj⟩
  subst he
  rw [ha, run_indexAt_slice wx t ⟨b, off, none⟩ _ _ _ _ hu, if_pos (by omega), hs wx]
  simp only [Int.toNat_natCast]
  show Result.ok (Value.pointer (some ((⟨b, off, none⟩ : Addr).add (i * k)))) wx = _
  rw [add_none]
end Go.Proofs.YtodkmmmbomoheabDoor.pg
