/- Join, Meet, Cmp of package clock. -/
import Derived.Test.YtdfnmlcpimiboaaM11
namespace Go.Proofs.Ytdfnmlcpimiboaa.pg
open Go.ChangeShapes Go.WideShapes Go.ChangeAt Go.RowKit
set_option linter.unusedVariables false
set_option linter.unusedSimpArgs false
set_option maxRecDepth 100000
attribute [local go_sem ↓] Go.wp_at_zero Go.wp_at_succ
theorem two_ok {x y : Ck} (hx : x.ok) (hy : y.ok) : errL [x, y] 0 := .inr (.inr ⟨by simp, by simp [hx, hy], rfl⟩)
theorem two_bad {x y : Ck} (h : ¬ (x.ok ∧ y.ok)) : errL [x, y] 1 := .inr (.inl ⟨by simp, by
  by_cases hx : x.ok
  · exact ⟨y, by simp, fun q => h ⟨hx, q⟩⟩
  · exact ⟨x, by simp, hx⟩, rfl⟩)
theorem new4 (w : World) (a b c o : Obj) : ((((w.alloc a).alloc b).alloc c).alloc o).heap[w.heap.size + 3]? = some o := by
  have := heap_alloc_new (((w.alloc a).alloc b).alloc c) o
  rwa [World.size_alloc, World.size_alloc, World.size_alloc] at this
theorem new3 (w : World) (a b o : Obj) : (((w.alloc a).alloc b).alloc o).heap[w.heap.size + 2]? = some o := by
  have := heap_alloc_new ((w.alloc a).alloc b) o
  rwa [World.size_alloc, World.size_alloc] at this
def Ck.put (x : Ck) (k : Nat) (v : Int) : Ck := match k with
  | 0 => ⟨v, x.c1, x.c2, x.c3, x.c4, x.c5⟩
  | 1 => ⟨x.c0, v, x.c2, x.c3, x.c4, x.c5⟩
  | 2 => ⟨x.c0, x.c1, v, x.c3, x.c4, x.c5⟩
  | 3 => ⟨x.c0, x.c1, x.c2, v, x.c4, x.c5⟩
  | 4 => ⟨x.c0, x.c1, x.c2, x.c3, v, x.c5⟩
  | 5 => ⟨x.c0, x.c1, x.c2, x.c3, x.c4, v⟩
  | _ => x
theorem put_list (x : Ck) (k : Nat) (v : Int) : (x.put k v).list = x.list.set k v := by
  match k with
  | 0 => rfl
  | 1 => rfl
  | 2 => rfl
  | 3 => rfl
  | 4 => rfl
  | 5 => rfl
  | k + 6 => rfl
theorem Ck.ext_list {x y : Ck} (h : x.list = y.list) : x = y := by
  cases x; cases y
  simp only [Ck.list, List.cons.injEq, and_true] at h
  simp [h]
theorem Ck.list_cells (x : Ck) : x.cells = x.list.map fun n => .int .i64 n := rfl
theorem set_mix {α : Type} {M X : List α} {k : Nat} {v : α} (hl : M.length = X.length) (hk : k < X.length) (hv : M[k]? = some v) : (M.take k ++ X.drop k).set k v = M.take (k + 1) ++ X.drop (k + 1) := by
  have h1 : (M.take k).length = k := by rw [List.length_take]; omega
  rw [List.set_append_right _ _ (by omega), h1, Nat.sub_self, List.take_add_one, hv, List.drop_eq_getElem_cons hk, List.set_cons_zero]
  simp
theorem mix_at {α : Type} {M X : List α} {k : Nat} (hl : M.length = X.length) (hk : k < X.length) : (M.take k ++ X.drop k)[k]? = X[k]? := by
  have h1 : (M.take k).length = k := by rw [List.length_take]; omega
  rw [List.getElem?_append_right (by omega), h1, Nat.sub_self, List.getElem?_drop, Nat.add_zero]
theorem meet_at {x y : Ck} {k : Nat} {m n : Int} (hm : x.list[k]? = some m) (hn : y.list[k]? = some n) : (x.meet y).list[k]? = some (min m n) := by
  match k, hm, hn with
  | 0, hm, hn => simp [Ck.list] at hm hn ⊢; rw [hm, hn]
  | 1, hm, hn => simp [Ck.list] at hm hn ⊢; rw [hm, hn]
  | 2, hm, hn => simp [Ck.list] at hm hn ⊢; rw [hm, hn]
  | 3, hm, hn => simp [Ck.list] at hm hn ⊢; rw [hm, hn]
  | 4, hm, hn => simp [Ck.list] at hm hn ⊢; rw [hm, hn]
  | 5, hm, hn => simp [Ck.list] at hm hn ⊢; rw [hm, hn]
  | k + 6, hm, hn => simp [Ck.list] at hm
theorem join_at {x y : Ck} {k : Nat} {m n : Int} (hm : x.list[k]? = some m) (hn : y.list[k]? = some n) : (x.join y).list[k]? = some (max m n) := by
  match k, hm, hn with
  | 0, hm, hn => simp [Ck.list] at hm hn ⊢; rw [hm, hn]
  | 1, hm, hn => simp [Ck.list] at hm hn ⊢; rw [hm, hn]
  | 2, hm, hn => simp [Ck.list] at hm hn ⊢; rw [hm, hn]
  | 3, hm, hn => simp [Ck.list] at hm hn ⊢; rw [hm, hn]
  | 4, hm, hn => simp [Ck.list] at hm hn ⊢; rw [hm, hn]
  | 5, hm, hn => simp [Ck.list] at hm hn ⊢; rw [hm, hn]
  | k + 6, hm, hn => simp [Ck.list] at hm
end Go.Proofs.Ytdfnmlcpimiboaa.pg
/- below and Cmp of package clock; how two clocks stand. -/
namespace Go.Proofs.Ytdfnmlcpimiboaa.pg
open Go.ChangeShapes Go.WideShapes Go.ChangeAt Go.RowKit
set_option linter.unusedVariables false
set_option linter.unusedSimpArgs false
set_option maxRecDepth 100000
attribute [local go_sem ↓] Go.wp_at_zero Go.wp_at_succ
/-- Not above. -/
def leK (x y : Ck) : Bool := decide (x.c0 ≤ y.c0) && decide (x.c1 ≤ y.c1) && decide (x.c2 ≤ y.c2) && decide (x.c3 ≤ y.c3) && decide (x.c4 ≤ y.c4) && decide (x.c5 ≤ y.c5)
theorem leK_iff (x y : Ck) : leK x y = true ↔ x.c0 ≤ y.c0 ∧ x.c1 ≤ y.c1 ∧ x.c2 ≤ y.c2 ∧ x.c3 ≤ y.c3 ∧ x.c4 ≤ y.c4 ∧ x.c5 ≤ y.c5 := by
  simp [leK, Bool.and_eq_true, and_assoc]
theorem max_eq_r (a b : Int) : (max a b == b) = decide (a ≤ b) := by
  rw [Bool.eq_iff_iff, beq_iff_eq, decide_eq_true_iff, Int.max_def]
  split <;> omega
theorem join_le (x y : Ck) : eqK (x.join y) y = leK x y := by
  simp only [eqK, leK, max_eq_r]
def belowK (x y : Ck) : Bool := !eqK x y && leK x y
theorem boxK_cls {W : World} {B : Nat} {x : Ck} (h : BoxK W B x) : (∀ s : Cls (Bey W), s.w.cell? ⟨B, 0, none⟩ = some (.int .i64 x.c0)) ∧ (∀ s : Cls (Bey W), s.w.cell? ⟨B, 1, none⟩ = some (.int .i64 x.c1)) ∧ (∀ s : Cls (Bey W), s.w.cell? ⟨B, 2, none⟩ = some (.int .i64 x.c2)) ∧ (∀ s : Cls (Bey W), s.w.cell? ⟨B, 3, none⟩ = some (.int .i64 x.c3)) ∧ (∀ s : Cls (Bey W), s.w.cell? ⟨B, 4, none⟩ = some (.int .i64 x.c4)) ∧ (∀ s : Cls (Bey W), s.w.cell? ⟨B, 5, none⟩ = some (.int .i64 x.c5)) :=
  ⟨fun s => (h.later s.h).1, fun s => (h.later s.h).2.1, fun s => (h.later s.h).2.2.1, fun s => (h.later s.h).2.2.2.1, fun s => (h.later s.h).2.2.2.2.1, fun s => (h.later s.h).2.2.2.2.2⟩
/-- How two clocks stand. -/
def cmpK (x y : Ck) : Int := if eqK x y then 0 else if leK x y then -1 else if leK y x then 1 else 2
theorem eqK_comm (x y : Ck) : eqK x y = eqK y x := by
  rw [Bool.eq_iff_iff, eqK_iff, eqK_iff]; exact eq_comm
theorem cmpK_cases (x y : Ck) : (eqK x y = true ∧ cmpK x y = 0) ∨ (eqK x y = false ∧ leK x y = true ∧ cmpK x y = -1) ∨ (eqK x y = false ∧ leK x y = false ∧ leK y x = true ∧ cmpK x y = 1) ∨ (eqK x y = false ∧ leK x y = false ∧ leK y x = false ∧ cmpK x y = 2) := by
  unfold cmpK
  cases eqK x y <;> cases leK x y <;> cases leK y x <;> simp
end Go.Proofs.Ytdfnmlcpimiboaa.pg
/- The document's own Join, Meet, Le, Cmp; Tick, by both; what is wrong with two clocks. -/
namespace Go.Proofs.Ytdfnmlcpimiboaa.pg
open Go.ChangeShapes Go.WideShapes Go.ChangeAt Go.RowKit
set_option linter.unusedVariables false
set_option linter.unusedSimpArgs false
set_option maxRecDepth 100000
attribute [local go_sem ↓] Go.wp_at_zero Go.wp_at_succ
end Go.Proofs.Ytdfnmlcpimiboaa.pg
