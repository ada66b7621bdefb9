/- Elements of a program's lists: what an index gives, and the cells there. -/
import Derived.Test.YtaghfahhfockkaaPgIn
namespace Go.Proofs.Ytaghfahhfockkaa.pg
open Go.ChangeShapes Go.WideShapes Go.ChangeAt Go.RowKit
set_option linter.unusedVariables false
theorem Rows.ix {w : World} {k : Nat} {a : Option Addr} {cap : Nat} {L : List (List Value)} (h : Rows w k a cap L) (t e : TypeId) (hu : Try.prog.underlying t = some (.slice e)) (he : Try.prog.elem t = e) (hs : ∀ wx, (sizeOf e).run Try.prog wx = .ok k wx)
    (i : Nat) {row : List Value} (hi : L[i]? = some row) :
    ∃ b o, (∀ wx, (Instr.indexAt t (.slice a L.length cap) (.int .i64 (i : Int))).run Try.prog wx = .ok (.pointer (some ⟨b, o, none⟩)) wx) ∧ b < w.heap.size ∧ ∀ j u, row[j]? = some u → w.cell? ⟨b, o + j, none⟩ = some u := by
  obtain ⟨b, off, ha, hlt, hc⟩ := h.row hi
  have hil : i < L.length := (List.getElem?_eq_some_iff.mp hi).1
  refine ⟨b, off + i * k, fun wx => ?_, hlt, fun j u hj => by rw [Nat.add_assoc]; exact hc j u hj⟩
  subst he
  rw [ha, run_indexAt_slice wx t ⟨b, off, none⟩ _ _ _ _ hu, if_pos (by omega), hs wx]
  simp only [Int.toNat_natCast]
  show Result.ok (Value.pointer (some ((⟨b, off, none⟩ : Addr).add (i * k)))) wx = _
  rw [add_none]
theorem ins_ix {w : World} {a : Option Addr} {cap : Nat} {l : List Ins} (h : Rows w 5 a cap (l.map Ins.cells)) (i : Nat) (x : Ins) (hi : l[i]? = some x) :
    ∃ b o, (∀ wx, (Instr.indexAt 32 (.slice a l.length cap) (.int .i64 (i : Int))).run Try.prog wx = .ok (.pointer (some ⟨b, o, none⟩)) wx) ∧ b < w.heap.size ∧ w.cell? ⟨b, o, none⟩ = some (.int .i64 x.op) ∧ w.cell? ⟨b, o + 1, none⟩ = some (.int .i64 x.a) ∧ w.cell? ⟨b, o + 2, none⟩ = some (.int .i64 x.b) ∧ w.cell? ⟨b, o + 3, none⟩ = some (.int .i64 x.c) ∧ w.cell? ⟨b, o + 4, none⟩ = some (.int .i64 x.n) := by
  obtain ⟨b, o, hr, hlt, hc⟩ := h.ix 32 47 Try.underlying32 (by kernel_rfl) (fun wx => Try.sizeOf47 wx) i (row := x.cells) (by simp [hi])
  rw [List.length_map] at hr
  exact ⟨b, o, hr, hlt, hc 0 _ rfl, hc 1 _ rfl, hc 2 _ rfl, hc 3 _ rfl, hc 4 _ rfl⟩
theorem cas_ix {w : World} {a : Option Addr} {cap : Nat} {l : List Cas} (h : Rows w 4 a cap (l.map Cas.cells)) (i : Nat) (x : Cas) (hi : l[i]? = some x) :
    ∃ b o, (∀ wx, (Instr.indexAt 37 (.slice a l.length cap) (.int .i64 (i : Int))).run Try.prog wx = .ok (.pointer (some ⟨b, o, none⟩)) wx) ∧ b < w.heap.size ∧ w.cell? ⟨b, o, none⟩ = some (.bool x.send) ∧ w.cell? ⟨b, o + 1, none⟩ = some (.int .i64 x.ch) ∧ w.cell? ⟨b, o + 2, none⟩ = some (.int .i64 x.reg) ∧ w.cell? ⟨b, o + 3, none⟩ = some (.int .i64 x.to) := by
  obtain ⟨b, o, hr, hlt, hc⟩ := h.ix 37 51 Try.underlying37 (by kernel_rfl) (fun wx => Try.sizeOf51 wx) i (row := x.cells) (by simp [hi])
  rw [List.length_map] at hr
  exact ⟨b, o, hr, hlt, hc 0 _ rfl, hc 1 _ rfl, hc 2 _ rfl, hc 3 _ rfl⟩
theorem sel_ix {w : World} {a : Option Addr} {cap : Nat} {l : List MSel} (h : Rows w 2 a cap (l.map MSel.cells)) (i : Nat) (x : MSel) (hi : l[i]? = some x) :
    ∃ b o, (∀ wx, (Instr.indexAt 33 (.slice a l.length cap) (.int .i64 (i : Int))).run Try.prog wx = .ok (.pointer (some ⟨b, o, none⟩)) wx) ∧ b < w.heap.size ∧ w.cell? ⟨b, o, none⟩ = some (.slice x.at_ x.cases.length x.cap) ∧ w.cell? ⟨b, o + 1, none⟩ = some (.int .i64 x.els) := by
  obtain ⟨b, o, hr, hlt, hc⟩ := h.ix 33 39 Try.underlying33 (by kernel_rfl) (fun wx => Try.sizeOf39 wx) i (row := x.cells) (by simp [hi])
  rw [List.length_map] at hr
  exact ⟨b, o, hr, hlt, hc 0 _ rfl, hc 1 _ rfl⟩
theorem vr_ix {w : World} {a : Option Addr} {cap : Nat} {l : List Vr} (h : Rows w 2 a cap (l.map Vr.cells)) (i : Nat) (x : Vr) (hi : l[i]? = some x) :
    ∃ b o, (∀ wx, (Instr.indexAt 22 (.slice a l.length cap) (.int .i64 (i : Int))).run Try.prog wx = .ok (.pointer (some ⟨b, o, none⟩)) wx) ∧ b < w.heap.size ∧ w.cell? ⟨b, o, none⟩ = some (.bool x.atomic) ∧ w.cell? ⟨b, o + 1, none⟩ = some (.int .i64 x.init) := by
  obtain ⟨b, o, hr, hlt, hc⟩ := h.ix 22 31 Try.underlying22 (by kernel_rfl) (fun wx => Try.sizeOf31 wx) i (row := x.cells) (by simp [hi])
  rw [List.length_map] at hr
  exact ⟨b, o, hr, hlt, hc 0 _ rfl, hc 1 _ rfl⟩
theorem ch_ix {w : World} {a : Option Addr} {cap : Nat} {l : List Int} (h : Rows w 1 a cap (l.map chCells)) (i : Nat) (x : Int) (hi : l[i]? = some x) :
    ∃ b o, (∀ wx, (Instr.indexAt 23 (.slice a l.length cap) (.int .i64 (i : Int))).run Try.prog wx = .ok (.pointer (some ⟨b, o, none⟩)) wx) ∧ b < w.heap.size ∧ w.cell? ⟨b, o, none⟩ = some (.int .i64 x) := by
  obtain ⟨b, o, hr, hlt, hc⟩ := h.ix 23 3 Try.underlying23 (by kernel_rfl) (fun wx => Try.sizeOf3 wx) i (row := chCells x) (by simp [hi])
  rw [List.length_map] at hr
  exact ⟨b, o, hr, hlt, hc 0 _ rfl⟩
theorem fn_ix {w : World} {a : Option Addr} {cap : Nat} {l : List MFn} (h : Rows w 4 a cap (l.map MFn.cells)) (i : Nat) (x : MFn) (hi : l[i]? = some x) :
    ∃ b o, (∀ wx, (Instr.indexAt 24 (.slice a l.length cap) (.int .i64 (i : Int))).run Try.prog wx = .ok (.pointer (some ⟨b, o, none⟩)) wx) ∧ b < w.heap.size ∧ w.cell? ⟨b, o, none⟩ = some (.int .i64 x.params) ∧ w.cell? ⟨b, o + 1, none⟩ = some (.int .i64 x.regs) ∧ w.cell? ⟨b, o + 2, none⟩ = some (.slice x.ca x.code.length x.ccap) ∧ w.cell? ⟨b, o + 3, none⟩ = some (.slice x.sa x.sels.length x.scap) := by
  obtain ⟨b, o, hr, hlt, hc⟩ := h.ix 24 35 Try.underlying24 (by kernel_rfl) (fun wx => Try.sizeOf35 wx) i (row := x.cells) (by simp [hi])
  rw [List.length_map] at hr
  exact ⟨b, o, hr, hlt, hc 0 _ rfl, hc 1 _ rfl, hc 2 _ rfl, hc 3 _ rfl⟩
end Go.Proofs.Ytaghfahhfockkaa.pg
