/- Whether two events depend on each other, by the document's own. -/
import Derived.Test.YtdfnmlcpimiboaaM5
import Derived.Test.YtdfnmlcpimiboaaM3
import Derived.Deep.WholeRow
namespace Go.Proofs.Ytdfnmlcpimiboaa.pg
open Go.ChangeShapes Go.WideShapes Go.ChangeAt Go.RowKit
set_option linter.unusedVariables false
set_option linter.unusedSimpArgs false
set_option maxRecDepth 100000
attribute [local go_sem ↓] Go.wp_at_zero Go.wp_at_succ
theorem BoxE.range {w : World} {B : Nat} {x : Ev} (h : BoxE w B x) : w.rangeAt B 0 x.cells := fun j v hv => by rw [Nat.zero_add]; exact h.at j v hv
theorem keepE2 {W w' : World} {A B : Nat} {x y : Ev} (h1 : BoxE W A x) (h2 : BoxE W B y) (hb : Below W.heap.size W w') : w'.rangeAt A 0 x.cells ∧ w'.rangeAt B 0 y.cells ∧ Below W.heap.size W w' :=
  ⟨(h1.later hb).range, (h2.later hb).range, hb⟩
end Go.Proofs.Ytdfnmlcpimiboaa.pg
/- Structs of many cells, stored whole into a new box. -/
namespace Go.Proofs.Ytdfnmlcpimiboaa.pg
open Go.ChangeShapes Go.WideShapes Go.ChangeAt Go.RowKit
set_option linter.unusedVariables false
theorem wp_store_new {P : Program} {op : Oper} {a : Act} {w : World} {K : Act → World → Prop} {Q : Exit → Act → World → Prop} (ty : TypeId) (x y : Operand) (ho : op.op = .store ty x y) (hx : a.eval x = .pointer (some ⟨w.heap.size, 0, none⟩)) (c c' : Array Value) (hy : a.eval y = .agg c')
    (hi : (P.info? ty).map (·.size) = some c'.size) (hsz : c.size = c'.size) (h1 : c'.all (·.oneCell') = true) (h : K (a.put op.dst undef) (w.alloc (.cells c' ty))) : op.wp P a (w.alloc (.cells c ty)) K Q := by
  unfold Oper.wp execOp
  simp only [ho, hx, hy, Sem.run_bind, Sem.run_pure, Result.andThen_ok, run_storeAt_new w ty c c' hi hsz h1]
  exact h
theorem wpList_store_new {P : Program} {ops : Array Oper} {rest : List Oper} {op : Oper} {a : Act} {w : World} {Q : Exit → Act → World → Prop} (hgd : op.guard = none) (ty : TypeId) (x y : Operand) (ho : op.op = .store ty x y) (hx : a.eval x = .pointer (some ⟨w.heap.size, 0, none⟩)) (c c' : Array Value) (hy : a.eval y = .agg c')
    (hi : (P.info? ty).map (·.size) = some c'.size) (hsz : c.size = c'.size) (h1 : c'.all (·.oneCell') = true) (h : wpList P ops Q rest (a.put op.dst undef) (w.alloc (.cells c' ty))) : wpList P ops Q (op :: rest) a (w.alloc (.cells c ty)) :=
  wpList_plain hgd fun _ hK => wp_store_new ty x y ho hx c c' hy hi hsz h1 (hK _ _ h)
/-- A load of many cells at once, guarded or not. -/
theorem wpList_load_g {P : Program} {ops : Array Oper} {rest : List Oper} {op : Oper} {a : Act} {w : World} {Q : Exit → Act → World → Prop} (hw : Region.wanted op (yielded ops a.tmps) = true) (ty : TypeId) (x : Operand) (ho : op.op = .load ty x)
    (b o : Nat) (hx : a.eval x = .pointer (some ⟨b, o, none⟩)) (cs : List Value) (d : TypeDesc) (hc : w.rangeAt b o cs)
    (hu : P.underlying ty = some d) (hd : d.isRow = true) (hi : (P.info? ty).map (·.size) = some cs.length)
    (h : wpList P ops Q rest (a.put op.dst (.agg cs.toArray)) w) : wpList P ops Q (op :: rest) a w :=
  BigFrame.wpList_want hw fun _ hK => wp_load_mid ty x ho b o hx cs d hc hu hd hi (hK _ _ h)
/-- The zero value of a struct of many cells, without a word on what it is. -/
theorem zero_big {P : Program} {t : TypeId} {n : Nat} (h : ((P.info? t).bind (·.zero)).any (fun v => match v with | .agg Z => Z.size == n | _ => false) = true) : ∃ Z : Array Value, (∀ w, (zeroValue t).run P w = .ok (.agg Z) w) ∧ Z.size = n ∧ (P.info? t).bind (·.zero) = some (.agg Z) := by
  cases hq : P.info? t with
  | none => simp [hq] at h
  | some i =>
    cases hz : i.zero with
    | none => simp [hq, hz] at h
    | some v =>
      cases v <;> simp [hq, hz] at h
      rename_i Z
      exact ⟨Z, fun w => by simp [zeroValue, typeInfo, hq, hz], h, by simp [hz]⟩
theorem run_alloc_big {P : Program} {t : TypeId} {Z : Array Value} (hz : ∀ w, (zeroValue t).run P w = .ok (.agg Z) w) (w : World) : (Instr.alloc t true (.tuple #[])).run P w = .ok (.pointer (some ⟨w.heap.size, 0, none⟩)) (w.alloc (.cells Z t)) := by
  simp [Instr.alloc, Sem.run_bind, hz, newVar, Value.cells, go_sem]
theorem wpList_alloc_big {P : Program} {ops : Array Oper} {rest : List Oper} {op : Oper} {a : Act} {w : World} {Q : Exit → Act → World → Prop} (hgd : op.guard = none) (ty : TypeId) (ho : op.op = .alloc ty) {Z : Array Value} (hz : ∀ w, (zeroValue ty).run P w = .ok (.agg Z) w)
    (h : wpList P ops Q rest (a.put op.dst (.pointer (some ⟨w.heap.size, 0, none⟩))) (w.alloc (.cells Z ty))) : wpList P ops Q (op :: rest) a w :=
  wpList_plain hgd fun _ hK => by
    unfold Oper.wp execOp
    simp only [ho, Sem.run_bind, Sem.run_pure, Result.andThen_ok, run_alloc_big hz w]
    exact hK _ _ h
end Go.Proofs.Ytdfnmlcpimiboaa.pg
/- What is no event of a trace: Check of it. -/
namespace Go.Proofs.Ytdfnmlcpimiboaa.pg
open Go.ChangeShapes Go.WideShapes Go.ChangeAt Go.RowKit
set_option linter.unusedVariables false
set_option linter.unusedSimpArgs false
set_option maxRecDepth 100000
attribute [local go_sem ↓] Go.wp_at_zero Go.wp_at_succ
theorem ev_one (x : Ev) : x.cells.toArray.all (·.oneCell') = true := by simp [Ev.cells, Value.oneCell']
theorem right_few (x : Ev) (w : World) (hn : x.n < 1) : Calls Try.prog 44 #[x.val] w fun e w' => e = .returned (.bool false) ∧ Below w.heap.size w w' := by
  by_cases h0 : x.go < 0
  · go_enter Try.func44, Try.ntmps44
    go_wp2
    go_ret
    exact ⟨rfl, boxed _ _⟩
  · by_cases h1 : 6 ≤ x.go
    all_goals
      go_enter Try.func44, Try.ntmps44
      go_wp2
      go_ret
      exact ⟨rfl, boxed _ _⟩
set_option maxHeartbeats 1000000 in
theorem check_few (x : Ev) (w : World) (g : Nat) (hn : x.n < 1) (hr : w.rangeAt g 0 x.cells) : Calls Try.prog 24 #[.slice (some ⟨g, 0, none⟩) 1 1] w fun e w' => e = .returned (.int .i64 7) ∧ Below w.heap.size w w' := by
  have hrH : Hid (w.rangeAt g 0 x.cells) := hr
  have hu := Try.underlying55
  have hi : (Try.prog.info? 55).map (·.size) = some x.cells.length := by kernel_rfl
  have huH : Hid (Try.prog.underlying 55 = _) := hu
  have hiH : Hid ((Try.prog.info? 55).map (·.size) = some x.cells.length) := hi
  have c1 : ∀ wx, Calls Try.prog 44 #[.agg x.cells.toArray] wx _ := fun wx => right_few x wx hn
  clear hr hu hi
  go_enter Try.func24, Try.ntmps24
  go_wp2
  go_loopw [10] (fun u wr => u = .int .i64 0 ∧ wr = w) (fun _ _ => 0)
  case atStart => exact ⟨rfl, rfl⟩
  case round =>
    obtain ⟨rfl, rfl⟩ := hrel
    go_wp2_with (first
      | (refine wpList_load_mid rfl 55 _ rfl g 0 rfl x.cells _ hrH.out huH.out rfl hiH.out ?_)
      | (refine wpList_store_new rfl 55 _ _ rfl rfl _ x.cells.toArray rfl (by kernel_rfl) rfl (ev_one x) ?_)
      | (refine wpList_load_mid rfl 55 _ rfl wr.heap.size 0 rfl x.cells _ (boxE_new wr x).range huH.out rfl hiH.out ?_)
      | (go_at_call 44; (with_reducible refine (c1 _).mono ?_); rintro e w1 ⟨rfl, hb1⟩))
    go_ret
    exact ⟨rfl, bthen (boxed _ _) hb1⟩
end Go.Proofs.Ytdfnmlcpimiboaa.pg
