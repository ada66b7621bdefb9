/- Whether two events depend on each other, by package depend and by the document's own. -/
import Derived.Test.YtdfnmlcpimiboaaM4
import Derived.Test.YtdfnmlcpimiboaaM2
import Derived.Deep.MidRow
import Derived.Test.YtdfnmlcpimiboaaM3
import Derived.Deep.RegionHeld3
namespace Go.Proofs.Ytdfnmlcpimiboaa.pg
open Go.ChangeShapes Go.WideShapes Go.ChangeAt Go.RowKit
set_option linter.unusedVariables false
set_option linter.unusedSimpArgs false
set_option maxRecDepth 100000
attribute [local go_sem ↓] Go.wp_at_zero Go.wp_at_succ
theorem quiet_ev {W : World} {B : Nat} {x : Ev} (hB : ∀ s : Cls (Bey W), BoxE s.w B x) {K : Act → Prop} {o : Oper} {a : Act} (y : Operand) (ho : o.op = .load 55 y) (hx : a.eval y = .pointer (some ⟨B, 0, none⟩)) (hk : K (a.put o.dst x.val)) : o.quiet Try.prog a (fun w' => ∃ s : Cls (Bey W), w' = s.w) K :=
  quiet_load_mid 55 y ho B 0 hx x.cells _ (fun s j v hv => by rw [Nat.zero_add]; exact (hB s).at j v hv) Try.underlying55 rfl (by kernel_rfl) hk
set_option maxHeartbeats 400000 in
theorem dependent_any (a b : Ev) (w : World) (R : Bool) (hR : Hid (R = clash a.of b.of)) :
    Calls Try.prog 22 #[a.val, b.val] w fun e w' => e = .returned (.bool R) ∧ Below w.heap.size w w' := by
  have hb := boxed2 w (objE a) (objE b)
  have bA := (boxE_new w a).later (boxed (w.alloc (objE a)) (objE b))
  have bB := boxE_new (w.alloc (objE a)) b
  rw [World.size_alloc] at bB
  have cT : ∀ (x : Ev) wx, Calls Try.prog 43 #[x.val] wx _ := fun x wx => touches_any x wx
  have la := tN_le a.n
  have lb := tN_le b.n
  go_enter Try.func22, Try.ntmps22
  go_wp2_with fail
  generalize (w.alloc (objE a)).alloc (objE b) = W at *
  generalize w.heap.size + 1 = B0 at *
  have hbH : Hid (Below w.heap.size w W) := hb
  clear hb
  have hrA : ∀ s : Cls (Bey W), Rows s.w 3 (some ⟨w.heap.size, 7, none⟩) 6 (a.of.map Acc.cells) := fun s => rowsE (bA.later s.h)
  have hrB : ∀ s : Cls (Bey W), Rows s.w 3 (some ⟨B0, 7, none⟩) 6 (b.of.map Acc.cells) := fun s => rowsE (bB.later s.h)
  have cC : ∀ s : Cls (Bey W), Calls Try.prog 42 #[.slice (some ⟨w.heap.size, 7, none⟩) (tN a.n) 6, .slice (some ⟨B0, 7, none⟩) (tN b.n) 6] s.w _ := fun s => by
    have := clash_short a.of b.of _ _ _ _ s.w (hrA s) (hrB s) (.inl (by rw [Ev.of_len]; omega)) R hR
    rw [Ev.of_len, Ev.of_len] at this
    exact this
  have hqA : ∀ s : Cls (Bey W), BoxE s.w w.heap.size a := fun s => bA.later s.h
  have hqB : ∀ s : Cls (Bey W), BoxE s.w B0 b := fun s => bB.later s.h
  clear bA bB hrA hrB
  have hne := bey_some W
  have la0 : (0 : Int) ≤ (tN a.n : Int) := by omega
  have lb0 : (0 : Int) ≤ (tN b.n : Int) := by omega
  have la6 : (tN a.n : Int) ≤ 6 := by omega
  have lb6 : (tN b.n : Int) ≤ 6 := by omega
  refine wp_region_cls (Bey W) (by kernel_rfl) (by kernel_rfl) (bey_drew W) ?_
  repeat (first
    | (go_big_quiet_want; (first | refine quiet_ev hqA _ rfl rfl ?_ | refine quiet_ev hqB _ rfl rfl ?_); (simp only [Act.put, List.setIfInBounds_toArray, List.set_cons_zero, List.set_cons_succ]); go_big_quiet_on)
    | go_big_quiet_step ((first | (go_at_call 43; exact calls_bey (cT _ _)) | (go_at_call 42; exact calls_bey (cC _)))))
  refine wpQuiet_nil ?_
  intro _ hw'
  obtain ⟨sq, hw''⟩ := hw'
  subst hw''
  go_wp2
  go_ret
  exact ⟨rfl, bthen hbH.out sq.h⟩
end Go.Proofs.Ytdfnmlcpimiboaa.pg
/- What the document's own package says an event touches. -/
namespace Go.Proofs.Ytdfnmlcpimiboaa.pg
open Go.ChangeShapes Go.WideShapes Go.ChangeAt Go.RowKit
set_option linter.unusedVariables false
set_option linter.unusedSimpArgs false
set_option maxRecDepth 100000
attribute [local go_sem ↓] Go.wp_at_zero Go.wp_at_succ
theorem infoA : (Try.prog.info? 52).map (fun i => (i.zero, i.size, i.bytes)) = some (some (.agg #[.int .i64 0, .int .i64 0, .bool false]), 3, 24) := by kernel_rfl
/-- An access of an event in its box, by its place. -/
theorem ev_ix {w : World} {B : Nat} {x : Ev} (h : BoxE w B x) (i : Nat) (a : Acc) (hi : x.list[i]? = some a) :
    (∀ wx, (Instr.indexAt 53 (.pointer (some ⟨B, 7, none⟩)) (.int .i64 (i : Int))).run Try.prog wx = .ok (.pointer (some ⟨B, 7 + i * 3, none⟩)) wx) ∧ w.cell? ⟨B, 7 + i * 3, none⟩ = some (.int .i64 a.kind) ∧ w.cell? ⟨B, 7 + i * 3 + 1, none⟩ = some (.int .i64 a.num) ∧ w.cell? ⟨B, 7 + i * 3 + 2, none⟩ = some (.bool a.wr) := by
  have hl : i < 6 := by have := (List.getElem?_eq_some_iff.mp hi).1; simpa [Ev.list] using this
  refine ⟨fun wx => ?_, ?_, ?_, ?_⟩
  · have h6 : i = 0 ∨ i = 1 ∨ i = 2 ∨ i = 3 ∨ i = 4 ∨ i = 5 := by omega
    have u := Try.underlying53
    have z := Try.sizeOf52
    rcases h6 with rfl | rfl | rfl | rfl | rfl | rfl
    all_goals simp [Instr.indexAt, run_underlying u, asIntOf, go_sem, z]
  · have := x.list_at h i a hi 0 _ rfl; simpa using this
  · have := x.list_at h i a hi 1 _ rfl; rw [Nat.add_assoc]; exact this
  · have := x.list_at h i a hi 2 _ rfl; rw [Nat.add_assoc]; exact this
/-- How far Of has come. -/
structure OfSt (x : Ev) (W : World) (k : Nat) (va : Option Addr) (vc : Nat) (wr : World) : Prop where
  be : Below W.heap.size W wr
  ow : OwnL wr W.heap.size 52 3 va vc ((x.list.take k).map Acc.cells)
theorem tN_lt {n : Int} {k : Nat} (h : k < tN n) : (k : Int) < 6 ∧ (k : Int) < n := by
  have h1 := tN_int n
  rw [Int.max_def, Int.min_def] at h1
  split at h1 <;> split at h1 <;> omega
theorem tN_ge {n : Int} {k : Nat} (h : k ≤ tN n) (h2 : ¬ k < tN n) : ¬ (k : Int) < 6 ∨ (k : Int) < 6 ∧ ¬ (k : Int) < n := by
  have h1 := tN_int n
  rw [Int.max_def, Int.min_def] at h1
  split at h1 <;> split at h1 <;> omega
end Go.Proofs.Ytdfnmlcpimiboaa.pg
/- A region that draws its order, walked by hand: what yields the same in every world of a class is taken first; calls come one behind the other. -/
namespace Go.Proofs.Ytdfnmlcpimiboaa.pg
open Go.ChangeShapes Go.WideShapes Go.ChangeAt Go.RowKit
set_option linter.unusedVariables false
set_option linter.unusedSimpArgs false
theorem cf_fn {P : Program} {f : FuncId} {fn : Func} (hf : P.funcs[f]? = some fn) (h1 : (fn.name == "runtime.NumGoroutine") = false) (h2 : fn.body.isSome = true) (args : Array Value) (w : World) : (callFunc f args).run P w = .ok (.enter f args) w := by
  have h3 : ¬ fn.name = "runtime.NumGoroutine" := by simpa using h1
  have h4 : ¬ fn.body = none := fun q => by rw [q] at h2; simp at h2
  simp [callFunc, go_sem, hf, h3, h4]
section
variable {P : Program} {ops : Array Oper} {Q : Exit → Act → World → Prop} {S : World → Prop} {fuel : Nat} {listed : Array Bool} {a : Act} {w : World}
/-- A call, the only operation that may come up. -/
theorem reg_call {i : Nat} {o : Oper} (hr : Region.ready .any ops listed = [i]) (ho : ops[i]? = some o) (hw : Region.wanted o (yielded ops a.tmps) = true) (f : FuncId) (xs : Array Operand) (ts : Array TypeId)
    (hc0 : o.op = .call { callee := .value (.func f), args := xs, argTypes := ts }) (vs : Array Value) (hx : xs.map a.eval = vs) (hcf : (callFunc f vs).run P w = .ok (.enter f vs) w) (R : Ending → World → Prop) (hc : Calls P f vs w R)
    (hK : ∀ e w', R e w' → ∃ v, e = .returned v ∧ S w' ∧ (S w' → wpAnyH P .any ops Q S fuel (listed.setIfInBounds i true) (a.put o.dst v) w')) :
    wpAnyH P .any ops Q S (fuel + 1) listed a w := by
  refine wpAnyH_ready hr (by simp) (AllReadyH.cons ho (fun K hK2 => ?_) AllReadyH.nil)
  rw [if_pos hw]
  have hrun : (execOp a.eval o).run P w = .ok (.enter f vs) w := by
    have hf : a.eval (.func f) = .func (.func f) #[] #[] := rfl
    simp [execOp, hc0, resolve, invoke, hx, hf, Deferred.ofValue, hcf]
  unfold Oper.wp
  rw [hrun, Oper.upon_enter]
  refine hc.mono fun e w' h => ?_
  obtain ⟨v, rfl, hs, hk⟩ := hK e w' h
  exact hK2.out _ _ hs hk
theorem reg_call1 {i : Nat} {o : Oper} (hr : Region.ready .any ops listed = [i]) (ho : ops[i]? = some o) (hw : Region.wanted o (yielded ops a.tmps) = true) (f : FuncId) (x : Operand) (t : TypeId)
    (hc0 : o.op = .call { callee := .value (.func f), args := #[x], argTypes := #[t] }) (v : Value) (hx : a.eval x = v) (hcf : (callFunc f #[v]).run P w = .ok (.enter f #[v]) w) (R : Ending → World → Prop) (hc : Calls P f #[v] w R)
    (hK : ∀ e w', R e w' → ∃ v, e = .returned v ∧ S w' ∧ (S w' → wpAnyH P .any ops Q S fuel (listed.setIfInBounds i true) (a.put o.dst v) w')) :
    wpAnyH P .any ops Q S (fuel + 1) listed a w := reg_call hr ho hw f #[x] #[t] hc0 #[v] (by simp [hx]) hcf R hc hK
theorem reg_call2 {i : Nat} {o : Oper} (hr : Region.ready .any ops listed = [i]) (ho : ops[i]? = some o) (hw : Region.wanted o (yielded ops a.tmps) = true) (f : FuncId) (x y : Operand) (t u : TypeId)
    (hc0 : o.op = .call { callee := .value (.func f), args := #[x, y], argTypes := #[t, u] }) (v v2 : Value) (hx : a.eval x = v) (hy : a.eval y = v2) (hcf : (callFunc f #[v, v2]).run P w = .ok (.enter f #[v, v2]) w) (R : Ending → World → Prop) (hc : Calls P f #[v, v2] w R)
    (hK : ∀ e w', R e w' → ∃ v, e = .returned v ∧ S w' ∧ (S w' → wpAnyH P .any ops Q S fuel (listed.setIfInBounds i true) (a.put o.dst v) w')) :
    wpAnyH P .any ops Q S (fuel + 1) listed a w := reg_call hr ho hw f #[x, y] #[t, u] hc0 #[v, v2] (by simp [hx, hy]) hcf R hc hK
/-- An operation that yields a value and leaves the world, among those that may come up. -/
theorem arm_value {i : Nat} {o : Oper} (hw : Region.wanted o (yielded ops a.tmps) = true) (v : Value) (hrun : (execOp a.eval o).run P w = .ok (.value v) w) (hS : S w) (h : wpAnyH P .any ops Q S fuel (listed.setIfInBounds i true) (a.put o.dst v) w) :
    ∀ K' : Act → World → Prop, Shut (∀ a w, S w → (S w → wpAnyH P .any ops Q S fuel (listed.setIfInBounds i true) a w) → K' a w) → if Region.wanted o (yielded ops a.tmps) = true then Oper.wp P o a w K' Q else K' (a.put o.dst undef) w := fun K hK => by
  rw [if_pos hw]
  unfold Oper.wp
  rw [hrun]
  exact hK.out _ _ hS fun _ => h
/-- One that yields nothing and turns the world. -/
theorem arm_skip {i : Nat} {o : Oper} (hw : Region.wanted o (yielded ops a.tmps) = true) (w1 : World) (hrun : (execOp a.eval o).run P w = .ok .skip w1) (hS : S w1) (h : wpAnyH P .any ops Q S fuel (listed.setIfInBounds i true) (a.put o.dst undef) w1) :
    ∀ K' : Act → World → Prop, Shut (∀ a w, S w → (S w → wpAnyH P .any ops Q S fuel (listed.setIfInBounds i true) a w) → K' a w) → if Region.wanted o (yielded ops a.tmps) = true then Oper.wp P o a w K' Q else K' (a.put o.dst undef) w := fun K hK => by
  rw [if_pos hw]
  unfold Oper.wp
  rw [hrun]
  exact hK.out _ _ hS fun _ => h
/-- A call of one argument. -/
theorem arm_call1 {i : Nat} {o : Oper} (hw : Region.wanted o (yielded ops a.tmps) = true) (f : FuncId) (x : Operand) (t : TypeId)
    (hc0 : o.op = .call { callee := .value (.func f), args := #[x], argTypes := #[t] }) (v : Value) (hx : a.eval x = v) (hcf : (callFunc f #[v]).run P w = .ok (.enter f #[v]) w) (R : Ending → World → Prop) (hc : Calls P f #[v] w R)
    (hK : ∀ e w', R e w' → ∃ v, e = .returned v ∧ S w' ∧ (S w' → wpAnyH P .any ops Q S fuel (listed.setIfInBounds i true) (a.put o.dst v) w')) :
    ∀ K' : Act → World → Prop, Shut (∀ a w, S w → (S w → wpAnyH P .any ops Q S fuel (listed.setIfInBounds i true) a w) → K' a w) → if Region.wanted o (yielded ops a.tmps) = true then Oper.wp P o a w K' Q else K' (a.put o.dst undef) w := fun K hK2 => by
  rw [if_pos hw]
  have hrun : (execOp a.eval o).run P w = .ok (.enter f #[v]) w := by
    have hf : a.eval (.func f) = .func (.func f) #[] #[] := rfl
    simp [execOp, hc0, resolve, invoke, hx, hf, Deferred.ofValue, hcf]
  unfold Oper.wp
  rw [hrun, Oper.upon_enter]
  refine hc.mono fun e w' h => ?_
  obtain ⟨v, rfl, hs, hk⟩ := hK e w' h
  exact hK2.out _ _ hs hk
/-- A plain move, taken first. -/
theorem reg_load {i : Nat} {o : Oper} (ho : ops[i]? = some o) (hs : Region.noSelect ops = true) (hf : Region.free .any ops listed i = true) (hr : (Region.ready .any ops listed).contains i = true)
    (hQ : ∀ c v a w, Q (.panic c) (a.put o.dst v) w → Q (.panic c) a w) (hw : Region.wanted o (yielded ops a.tmps) = true) (ty : TypeId) (x : Operand) (hl : o.op = .load ty x) (b off : Nat) (hx : a.eval x = .pointer (some ⟨b, off, none⟩)) (cs : List Value) (d : TypeDesc)
    (hS : ∀ w, S w → w.rangeAt b off cs) (hu : P.underlying ty = some d) (hd : d.isRow = true) (hi : (P.info? ty).map (·.size) = some cs.length) (hSw : S w)
    (h : wpAnyH P .any ops Q S fuel (listed.setIfInBounds i true) (a.put o.dst (.agg cs.toArray)) w) : wpAnyH P .any ops Q S (fuel + 1) listed a w :=
  wpAnyH_take ho hs hf hr (fun c a w => hQ c _ a w) (yieldsIf_load_mid hw ty x hl b off hx cs d hS hu hd hi) hSw h
theorem reg_move {i : Nat} {o : Oper} (ho : ops[i]? = some o) (hs : Region.noSelect ops = true) (hf : Region.free .any ops listed i = true) (hr : (Region.ready .any ops listed).contains i = true)
    (hQ : ∀ c v a w, Q (.panic c) (a.put o.dst v) w → Q (.panic c) a w) (hw : Region.wanted o (yielded ops a.tmps) = true) (v : Value) (hv : ∀ w, (execOp a.eval o).run P w = .ok (.value v) w) (hSw : S w)
    (h : wpAnyH P .any ops Q S fuel (listed.setIfInBounds i true) (a.put o.dst v) w) : wpAnyH P .any ops Q S (fuel + 1) listed a w :=
  wpAnyH_take ho hs hf hr (fun c a w => hQ c _ a w) (.inl ⟨hw, fun w _ => hv w⟩) hSw h
end
end Go.Proofs.Ytdfnmlcpimiboaa.pg
