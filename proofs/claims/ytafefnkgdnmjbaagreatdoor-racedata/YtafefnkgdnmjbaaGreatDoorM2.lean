/- Boxes of a program's parts. -/
import Derived.Test.YtafefnkgdnmjbaaGreatDoorM1
import Derived.Handy
import Derived.Deep.QuietTactic
import Derived.BigQuiet
import Derived.Deep.RegionHeld3
import Derived.Deep.DrawnRows
import Derived.Deep.MidRow
namespace Go.Proofs.YtafefnkgdnmjbaaGreatDoor.pg
open Go.ChangeShapes Go.WideShapes Go.ChangeAt Go.RowKit
set_option linter.unusedVariables false
theorem ret_b {a b : Bool} (h : a = b) : Ending.returned (.bool a) = .returned (.bool b) := by rw [h]
theorem ret_i {a b : Int} (h : a = b) : Ending.returned (.int .i64 a) = .returned (.int .i64 b) := by rw [h]
/-- What a new box is: its cells, and that all else lies as it lay. -/
theorem boxed (w : World) (o : Obj) : Below w.heap.size w (w.alloc o) := (Below.refl _ _).alloc (Nat.le_refl _) _
theorem boxed2 (w : World) (o1 o2 : Obj) : Below w.heap.size w ((w.alloc o1).alloc o2) := (boxed w o1).trans ((boxed _ _).mono (boxed w o1).size)
theorem boxed3 (w : World) (o1 o2 o3 : Obj) : Below w.heap.size w (((w.alloc o1).alloc o2).alloc o3) := (boxed2 w o1 o2).trans ((boxed _ _).mono (boxed2 w o1 o2).size)
theorem cell3 {w : World} {a : Addr} {v : Value} (h : w.cell? a = some v) (o1 o2 o3 : Obj) : (((w.alloc o1).alloc o2).alloc o3).cell? a = some v := cell_later (boxed3 w o1 o2 o3) h
theorem rows_len {α : Type} {w : World} {k : Nat} {a : Option Addr} {cap : Nat} {l : List α} {C : α → List Value} (h : Rows w k a cap (l.map C)) : (l.length : Int) ≤ 9223372036854775807 := by
  have h1 := h.1
  have h2 := h.2.1
  rw [List.length_map] at h1
  omega
theorem bthen {w a b : World} (h : Below w.heap.size w a) (k : Below a.heap.size a b) : Below w.heap.size w b := h.trans (k.mono h.size)
/-- A box of its own, and what lies in it. -/
abbrev objP (x : MPr) : Obj := .cells #[.slice x.va x.vars.length x.vcap, .int .i64 x.locks, .slice x.cha x.chans.length x.chcap, .slice x.fa x.fns.length x.fcap] 36
def BoxP (w : World) (B : Nat) (x : MPr) : Prop := w.cell? ⟨B, 0, none⟩ = some (.slice x.va x.vars.length x.vcap) ∧ w.cell? ⟨B, 1, none⟩ = some (.int .i64 x.locks) ∧ w.cell? ⟨B, 2, none⟩ = some (.slice x.cha x.chans.length x.chcap) ∧ w.cell? ⟨B, 3, none⟩ = some (.slice x.fa x.fns.length x.fcap)
theorem BoxP.later {w w' : World} {B : Nat} {x : MPr} (h : BoxP w B x) (hb : Below w.heap.size w w') : BoxP w' B x := ⟨cell_later hb (h.1), cell_later hb (h.2.1), cell_later hb (h.2.2.1), cell_later hb (h.2.2.2)⟩
theorem BoxP.lt {w : World} {B : Nat} {x : MPr} (h : BoxP w B x) : B < w.heap.size := World.block_lt_of_cell? _ _ h.1
theorem boxP_new (w : World) (x : MPr) : BoxP (w.alloc (objP x)) w.heap.size x := by
  refine ⟨?_, ?_, ?_, ?_⟩ <;> exact World.cell?_alloc_at _ _ _ _ rfl
/-- A box of its own, and what lies in it. -/
abbrev objF (x : MFn) : Obj := .cells #[.int .i64 x.params, .int .i64 x.regs, .slice x.ca x.code.length x.ccap, .slice x.sa x.sels.length x.scap] 165
def BoxF (w : World) (B : Nat) (x : MFn) : Prop := w.cell? ⟨B, 0, none⟩ = some (.int .i64 x.params) ∧ w.cell? ⟨B, 1, none⟩ = some (.int .i64 x.regs) ∧ w.cell? ⟨B, 2, none⟩ = some (.slice x.ca x.code.length x.ccap) ∧ w.cell? ⟨B, 3, none⟩ = some (.slice x.sa x.sels.length x.scap)
theorem BoxF.later {w w' : World} {B : Nat} {x : MFn} (h : BoxF w B x) (hb : Below w.heap.size w w') : BoxF w' B x := ⟨cell_later hb (h.1), cell_later hb (h.2.1), cell_later hb (h.2.2.1), cell_later hb (h.2.2.2)⟩
theorem BoxF.lt {w : World} {B : Nat} {x : MFn} (h : BoxF w B x) : B < w.heap.size := World.block_lt_of_cell? _ _ h.1
theorem boxF_new (w : World) (x : MFn) : BoxF (w.alloc (objF x)) w.heap.size x := by
  refine ⟨?_, ?_, ?_, ?_⟩ <;> exact World.cell?_alloc_at _ _ _ _ rfl
/-- A box of its own, and what lies in it. -/
abbrev objS (x : MSel) : Obj := .cells #[.slice x.at_ x.cases.length x.cap, .int .i64 x.els] 221
def BoxS (w : World) (B : Nat) (x : MSel) : Prop := w.cell? ⟨B, 0, none⟩ = some (.slice x.at_ x.cases.length x.cap) ∧ w.cell? ⟨B, 1, none⟩ = some (.int .i64 x.els)
theorem BoxS.later {w w' : World} {B : Nat} {x : MSel} (h : BoxS w B x) (hb : Below w.heap.size w w') : BoxS w' B x := ⟨cell_later hb (h.1), cell_later hb (h.2)⟩
theorem BoxS.lt {w : World} {B : Nat} {x : MSel} (h : BoxS w B x) : B < w.heap.size := World.block_lt_of_cell? _ _ h.1
theorem boxS_new (w : World) (x : MSel) : BoxS (w.alloc (objS x)) w.heap.size x := by
  refine ⟨?_, ?_⟩ <;> exact World.cell?_alloc_at _ _ _ _ rfl
/-- A box of its own, and what lies in it. -/
abbrev objC (x : Cas) : Obj := .cells #[.bool x.send, .int .i64 x.ch, .int .i64 x.reg, .int .i64 x.to] 223
def BoxC (w : World) (B : Nat) (x : Cas) : Prop := w.cell? ⟨B, 0, none⟩ = some (.bool x.send) ∧ w.cell? ⟨B, 1, none⟩ = some (.int .i64 x.ch) ∧ w.cell? ⟨B, 2, none⟩ = some (.int .i64 x.reg) ∧ w.cell? ⟨B, 3, none⟩ = some (.int .i64 x.to)
theorem BoxC.later {w w' : World} {B : Nat} {x : Cas} (h : BoxC w B x) (hb : Below w.heap.size w w') : BoxC w' B x := ⟨cell_later hb (h.1), cell_later hb (h.2.1), cell_later hb (h.2.2.1), cell_later hb (h.2.2.2)⟩
theorem BoxC.lt {w : World} {B : Nat} {x : Cas} (h : BoxC w B x) : B < w.heap.size := World.block_lt_of_cell? _ _ h.1
theorem boxC_new (w : World) (x : Cas) : BoxC (w.alloc (objC x)) w.heap.size x := by
  refine ⟨?_, ?_, ?_, ?_⟩ <;> exact World.cell?_alloc_at _ _ _ _ rfl
/-- A box of its own, and what lies in it. -/
abbrev objI (x : Ins) : Obj := .cells #[.int .i64 x.op, .int .i64 x.a, .int .i64 x.b, .int .i64 x.c, .int .i64 x.n] 161
def BoxI (w : World) (B : Nat) (x : Ins) : Prop := w.cell? ⟨B, 0, none⟩ = some (.int .i64 x.op) ∧ w.cell? ⟨B, 1, none⟩ = some (.int .i64 x.a) ∧ w.cell? ⟨B, 2, none⟩ = some (.int .i64 x.b) ∧ w.cell? ⟨B, 3, none⟩ = some (.int .i64 x.c) ∧ w.cell? ⟨B, 4, none⟩ = some (.int .i64 x.n)
theorem BoxI.later {w w' : World} {B : Nat} {x : Ins} (h : BoxI w B x) (hb : Below w.heap.size w w') : BoxI w' B x := ⟨cell_later hb (h.1), cell_later hb (h.2.1), cell_later hb (h.2.2.1), cell_later hb (h.2.2.2.1), cell_later hb (h.2.2.2.2)⟩
theorem BoxI.lt {w : World} {B : Nat} {x : Ins} (h : BoxI w B x) : B < w.heap.size := World.block_lt_of_cell? _ _ h.1
theorem boxI_new (w : World) (x : Ins) : BoxI (w.alloc (objI x)) w.heap.size x := by
  refine ⟨?_, ?_, ?_, ?_, ?_⟩ <;> exact World.cell?_alloc_at _ _ _ _ rfl
theorem bcell {W w1 : World} (hb : Below W.heap.size W w1) : (∀ b o, b < W.heap.size → w1.cell? ⟨b, o, none⟩ = W.cell? ⟨b, o, none⟩) ∧ (∀ b o, b < W.heap.size → w1.frozen? ⟨b, o, none⟩ = W.frozen? ⟨b, o, none⟩) :=
  ⟨fun b o h => hb.cell (p := ⟨b, o, none⟩) h, fun b o h => hb.frozen (p := ⟨b, o, none⟩) h⟩
end Go.Proofs.YtafefnkgdnmjbaaGreatDoor.pg
/- A region that draws its order, walked once in the order of its text, in every world of a class: reads, and calls that leave a world of the class. -/
namespace Go.Proofs.YtafefnkgdnmjbaaGreatDoor.pg
open Go.ChangeShapes Go.WideShapes Go.ChangeAt Go.RowKit
set_option linter.unusedVariables false
/-- A world of a class. -/
structure Cls (S : World → Prop) where
  w : World
  h : S w
theorem wp_region_cls {P : Program} (S : World → Prop) {id : Nat} {Q : Exit → Act → World → Prop} {a : Act} {w : World} {l : List Oper} (hm : P.follows .mixedOrders = true) (hB : Region.lexB .any l.toArray = true) (hS : S w.drew)
    (h : wpQuiet P l.toArray (fun w' => ∃ s : Cls S, w' = s.w) (fun a' => ∀ w', (∃ s : Cls S, w' = s.w) → Q .normal a' w') l a) : (Code.region id l.toArray true).wp P Q a w :=
  wp_region_quiet (C := fun w' => ∃ s : Cls S, w' = s.w) hm hB ⟨⟨_, hS⟩, rfl⟩ (by simpa using h)
/-- A load of many cells at once, in every world of the class. -/
theorem quiet_load_mid {P : Program} {S : World → Prop} {K : Act → Prop} {o : Oper} {a : Act} (ty : TypeId) (x : Operand) (ho : o.op = .load ty x) (b off : Nat) (hx : a.eval x = .pointer (some ⟨b, off, none⟩)) (cs : List Value) (d : TypeDesc) (hS : ∀ s : Cls S, s.w.rangeAt b off cs)
    (hu : P.underlying ty = some d) (hd : d.isRow = true) (hi : (P.info? ty).map (·.size) = some cs.length) (hk : K (a.put o.dst (.agg cs.toArray))) : o.quiet P a (fun w' => ∃ s : Cls S, w' = s.w) K :=
  ⟨_, fun w hw => by
    obtain ⟨s, rfl⟩ := hw
    unfold Oper.quietAt execOp
    simp only [ho, hx, Instr.loadAt, Instr.sureAddr, Sem.run_bind, Sem.run_pure, Result.andThen_ok, run_loadVar_mid s.w b off ty cs d (hS s) hu hd hi]
    exact ⟨rfl, rfl⟩, hk⟩
/-- A callee's contract in the class of all worlds that lie beyond one. -/
theorem calls_cls {P : Program} {f : FuncId} {args : Array Value} {S : World → Prop} {s : Cls S} {v : Value} {R : World → Prop} (h : Calls P f args s.w fun e w' => e = .returned v ∧ R w') (hR : ∀ w', R w' → S w') :
    Calls P f args s.w fun e w'' => e = .returned v ∧ ∃ t : Cls S, w'' = t.w :=
  h.mono fun _ w' ⟨he, hr⟩ => ⟨he, ⟨w', hR w' hr⟩, rfl⟩
/-- All worlds beyond one. -/
abbrev Bey (W : World) : World → Prop := fun w' => Below W.heap.size W w'
theorem bey_some (W : World) : Nonempty (Cls (Bey W)) := ⟨⟨W, Below.refl _ _⟩⟩
theorem bey_drew (W : World) : Bey W W.drew := (Below.refl _ _).drew
theorem calls_bey {P : Program} {f : FuncId} {args : Array Value} {W : World} {s : Cls (Bey W)} {v : Value} (h : Calls P f args s.w fun e w' => e = .returned v ∧ Below s.w.heap.size s.w w') :
    Calls P f args s.w fun e w'' => e = .returned v ∧ ∃ t : Cls (Bey W), w'' = t.w :=
  calls_cls h fun w' hb => bthen s.h hb
theorem bey_cell {W : World} {a : Addr} {v : Value} (h : W.cell? a = some v) (s : Cls (Bey W)) : s.w.cell? a = some v := cell_later s.h h
end Go.Proofs.YtafefnkgdnmjbaaGreatDoor.pg
/- A region that draws its order, walked by hand: what yields the same in every world of a class is taken first; calls come one behind the other. -/
namespace Go.Proofs.YtafefnkgdnmjbaaGreatDoor.pg
open Go.ChangeShapes Go.WideShapes Go.ChangeAt Go.RowKit
set_option linter.unusedVariables false
set_option linter.unusedSimpArgs false
theorem cf_fn {P : Program} {f : FuncId} {fn : Func} (hf : P.funcs[f]? = some fn) (h1 : (fn.name == "runtime.NumGoroutine") = false) (h2 : fn.body.isSome = true) (args : Array Value) (w : World) : (callFunc f args).run P w = .ok (.enter f args) w := by
  have h3 : ¬ fn.name = "runtime.NumGoroutine" := by simpa using h1
  have h4 : ¬ fn.body = none := fun q => by rw [q] at h2; simp at h2
  simp [callFunc, go_sem, hf, h3, h4]
section
variable {P : Program} {ops : Array Oper} {Q : Exit → Act → World → Prop} {S : World → Prop} {fuel : Nat} {listed : Array Bool} {a : Act} {w : World}
/-- A call, the only operation that may come up. -/
theorem reg_call {i : Nat} {o : Oper} (hr : Region.ready .any ops listed = [i]) (ho : ops[i]? = some o) (hw : Region.wanted o (yielded ops a.tmps) = true) (f : FuncId) (xs : Array Operand) (ts : Array TypeId)
    (hc0 : o.op = .call { callee := .value (.func f), args := xs, argTypes := ts }) (vs : Array Value) (hx : xs.map a.eval = vs) (hcf : (callFunc f vs).run P w = .ok (.enter f vs) w) (R : Ending → World → Prop) (hc : Calls P f vs w R)
    (hK : ∀ e w', R e w' → ∃ v, e = .returned v ∧ S w' ∧ (S w' → wpAnyH P .any ops Q S fuel (listed.setIfInBounds i true) (a.put o.dst v) w')) :
    wpAnyH P .any ops Q S (fuel + 1) listed a w := by
  refine wpAnyH_ready hr (by simp) (AllReadyH.cons ho (fun K hK2 => ?_) AllReadyH.nil)
  rw [if_pos hw]
  have hrun : (execOp a.eval o).run P w = .ok (.enter f vs) w := by
    have hf : a.eval (.func f) = .func (.func f) #[] #[] := rfl
    simp [execOp, hc0, resolve, invoke, hx, hf, Deferred.ofValue, hcf]
  unfold Oper.wp
  rw [hrun, Oper.upon_enter]
  refine hc.mono fun e w' h => ?_
  obtain ⟨v, rfl, hs, hk⟩ := hK e w' h
  exact hK2.out _ _ hs hk
theorem reg_call1 {i : Nat} {o : Oper} (hr : Region.ready .any ops listed = [i]) (ho : ops[i]? = some o) (hw : Region.wanted o (yielded ops a.tmps) = true) (f : FuncId) (x : Operand) (t : TypeId)
    (hc0 : o.op = .call { callee := .value (.func f), args := #[x], argTypes := #[t] }) (v : Value) (hx : a.eval x = v) (hcf : (callFunc f #[v]).run P w = .ok (.enter f #[v]) w) (R : Ending → World → Prop) (hc : Calls P f #[v] w R)
    (hK : ∀ e w', R e w' → ∃ v, e = .returned v ∧ S w' ∧ (S w' → wpAnyH P .any ops Q S fuel (listed.setIfInBounds i true) (a.put o.dst v) w')) :
    wpAnyH P .any ops Q S (fuel + 1) listed a w := reg_call hr ho hw f #[x] #[t] hc0 #[v] (by simp [hx]) hcf R hc hK
theorem reg_call2 {i : Nat} {o : Oper} (hr : Region.ready .any ops listed = [i]) (ho : ops[i]? = some o) (hw : Region.wanted o (yielded ops a.tmps) = true) (f : FuncId) (x y : Operand) (t u : TypeId)
    (hc0 : o.op = .call { callee := .value (.func f), args := #[x, y], argTypes := #[t, u] }) (v v2 : Value) (hx : a.eval x = v) (hy : a.eval y = v2) (hcf : (callFunc f #[v, v2]).run P w = .ok (.enter f #[v, v2]) w) (R : Ending → World → Prop) (hc : Calls P f #[v, v2] w R)
    (hK : ∀ e w', R e w' → ∃ v, e = .returned v ∧ S w' ∧ (S w' → wpAnyH P .any ops Q S fuel (listed.setIfInBounds i true) (a.put o.dst v) w')) :
    wpAnyH P .any ops Q S (fuel + 1) listed a w := reg_call hr ho hw f #[x, y] #[t, u] hc0 #[v, v2] (by simp [hx, hy]) hcf R hc hK
/-- An operation that yields a value and leaves the world, among those that may come up. -/
theorem arm_value {i : Nat} {o : Oper} (hw : Region.wanted o (yielded ops a.tmps) = true) (v : Value) (hrun : (execOp a.eval o).run P w = .ok (.value v) w) (hS : S w) (h : wpAnyH P .any ops Q S fuel (listed.setIfInBounds i true) (a.put o.dst v) w) :
    ∀ K' : Act → World → Prop, Shut (∀ a w, S w → (S w → wpAnyH P .any ops Q S fuel (listed.setIfInBounds i true) a w) → K' a w) → if Region.wanted o (yielded ops a.tmps) = true then Oper.wp P o a w K' Q else K' (a.put o.dst undef) w := fun K hK => by
  rw [if_pos hw]
  unfold Oper.wp
  rw [hrun]
  exact hK.out _ _ hS fun _ => h
/-- One that yields nothing and turns the world. -/
theorem arm_skip {i : Nat} {o : Oper} (hw : Region.wanted o (yielded ops a.tmps) = true) (w1 : World) (hrun : (execOp a.eval o).run P w = .ok .skip w1) (hS : S w1) (h : wpAnyH P .any ops Q S fuel (listed.setIfInBounds i true) (a.put o.dst undef) w1) :
    ∀ K' : Act → World → Prop, Shut (∀ a w, S w → (S w → wpAnyH P .any ops Q S fuel (listed.setIfInBounds i true) a w) → K' a w) → if Region.wanted o (yielded ops a.tmps) = true then Oper.wp P o a w K' Q else K' (a.put o.dst undef) w := fun K hK => by
  rw [if_pos hw]
  unfold Oper.wp
  rw [hrun]
  exact hK.out _ _ hS fun _ => h
/-- A call of one argument. -/
theorem arm_call1 {i : Nat} {o : Oper} (hw : Region.wanted o (yielded ops a.tmps) = true) (f : FuncId) (x : Operand) (t : TypeId)
    (hc0 : o.op = .call { callee := .value (.func f), args := #[x], argTypes := #[t] }) (v : Value) (hx : a.eval x = v) (hcf : (callFunc f #[v]).run P w = .ok (.enter f #[v]) w) (R : Ending → World → Prop) (hc : Calls P f #[v] w R)
    (hK : ∀ e w', R e w' → ∃ v, e = .returned v ∧ S w' ∧ (S w' → wpAnyH P .any ops Q S fuel (listed.setIfInBounds i true) (a.put o.dst v) w')) :
    ∀ K' : Act → World → Prop, Shut (∀ a w, S w → (S w → wpAnyH P .any ops Q S fuel (listed.setIfInBounds i true) a w) → K' a w) → if Region.wanted o (yielded ops a.tmps) = true then Oper.wp P o a w K' Q else K' (a.put o.dst undef) w := fun K hK2 => by
  rw [if_pos hw]
  have hrun : (execOp a.eval o).run P w = .ok (.enter f #[v]) w := by
    have hf : a.eval (.func f) = .func (.func f) #[] #[] := rfl
    simp [execOp, hc0, resolve, invoke, hx, hf, Deferred.ofValue, hcf]
  unfold Oper.wp
  rw [hrun, Oper.upon_enter]
  refine hc.mono fun e w' h => ?_
  obtain ⟨v, rfl, hs, hk⟩ := hK e w' h
  exact hK2.out _ _ hs hk
/-- A plain move, taken first. -/
theorem reg_load {i : Nat} {o : Oper} (ho : ops[i]? = some o) (hs : Region.noSelect ops = true) (hf : Region.free .any ops listed i = true) (hr : (Region.ready .any ops listed).contains i = true)
    (hQ : ∀ c v a w, Q (.panic c) (a.put o.dst v) w → Q (.panic c) a w) (hw : Region.wanted o (yielded ops a.tmps) = true) (ty : TypeId) (x : Operand) (hl : o.op = .load ty x) (b off : Nat) (hx : a.eval x = .pointer (some ⟨b, off, none⟩)) (cs : List Value) (d : TypeDesc)
    (hS : ∀ w, S w → w.rangeAt b off cs) (hu : P.underlying ty = some d) (hd : d.isRow = true) (hi : (P.info? ty).map (·.size) = some cs.length) (hSw : S w)
    (h : wpAnyH P .any ops Q S fuel (listed.setIfInBounds i true) (a.put o.dst (.agg cs.toArray)) w) : wpAnyH P .any ops Q S (fuel + 1) listed a w :=
  wpAnyH_take ho hs hf hr (fun c a w => hQ c _ a w) (yieldsIf_load_mid hw ty x hl b off hx cs d hS hu hd hi) hSw h
theorem reg_move {i : Nat} {o : Oper} (ho : ops[i]? = some o) (hs : Region.noSelect ops = true) (hf : Region.free .any ops listed i = true) (hr : (Region.ready .any ops listed).contains i = true)
    (hQ : ∀ c v a w, Q (.panic c) (a.put o.dst v) w → Q (.panic c) a w) (hw : Region.wanted o (yielded ops a.tmps) = true) (v : Value) (hv : ∀ w, (execOp a.eval o).run P w = .ok (.value v) w) (hSw : S w)
    (h : wpAnyH P .any ops Q S fuel (listed.setIfInBounds i true) (a.put o.dst v) w) : wpAnyH P .any ops Q S (fuel + 1) listed a w :=
  wpAnyH_take ho hs hf hr (fun c a w => hQ c _ a w) (.inl ⟨hw, fun w _ => hv w⟩) hSw h
end
end Go.Proofs.YtafefnkgdnmjbaaGreatDoor.pg
