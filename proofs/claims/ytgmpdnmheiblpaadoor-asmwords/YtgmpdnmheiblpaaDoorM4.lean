/- A region that draws its order, walked by hand: what yields the same in every world of a class is taken first; calls come one behind the other. -/
import Derived.Test.YtgmpdnmheiblpaaDoorM3
import Derived.Deep.RegionHeld3
import Derived.Test.YtgmpdnmheiblpaaDoorM1
namespace Go.Proofs.YtgmpdnmheiblpaaDoor.pg
open Go.ChangeShapes Go.WideShapes Go.ChangeAt Go.RowKit
set_option linter.unusedVariables false
set_option linter.unusedSimpArgs false
theorem cf_fn {P : Program} {f : FuncId} {fn : Func} (hf : P.funcs[f]? = some fn) (h1 : (fn.name == "runtime.NumGoroutine") = false) (h2 : fn.body.isSome = true) (args : Array Value) (w : World) : (callFunc f args).run P w = .ok (.enter f args) w := by
  have h3 : ¬ fn.name = "runtime.NumGoroutine" := by simpa using h1
  have h4 : ¬ fn.body = none := fun q => by rw [q] at h2; simp at h2
  simp [callFunc, go_sem, hf, h3, h4]
section
variable {P : Program} {ops : Array Oper} {Q : Exit → Act → World → Prop} {S : World → Prop} {fuel : Nat} {listed : Array Bool} {a : Act} {w : World}
/-- A call, the only operation that may come up. -/
theorem reg_call {i : Nat} {o : Oper} (hr : Region.ready .any ops listed = [i]) (ho : ops[i]? = some o) (hw : Region.wanted o (yielded ops a.tmps) = true) (f : FuncId) (xs : Array Operand) (ts : Array TypeId)
    (hc0 : o.op = .call { callee := .value (.func f), args := xs, argTypes := ts }) (vs : Array Value) (hx : xs.map a.eval = vs) (hcf : (callFunc f vs).run P w = .ok (.enter f vs) w) (R : Ending → World → Prop) (hc : Calls P f vs w R)
    (hK : ∀ e w', R e w' → ∃ v, e = .returned v ∧ S w' ∧ (S w' → wpAnyH P .any ops Q S fuel (listed.setIfInBounds i true) (a.put o.dst v) w')) :
    wpAnyH P .any ops Q S (fuel + 1) listed a w := by
  refine wpAnyH_ready hr (by simp) (AllReadyH.cons ho (fun K hK2 => ?_) AllReadyH.nil)
  rw [if_pos hw]
  have hrun : (execOp a.eval o).run P w = .ok (.enter f vs) w := by
    have hf : a.eval (.func f) = .func (.func f) #[] #[] := rfl
    simp [execOp, hc0, resolve, invoke, hx, hf, Deferred.ofValue, hcf]
  unfold Oper.wp
  rw [hrun, Oper.upon_enter]
  refine hc.mono fun e w' h => ?_
  obtain ⟨v, rfl, hs, hk⟩ := hK e w' h
  exact hK2.out _ _ hs hk
theorem reg_call1 {i : Nat} {o : Oper} (hr : Region.ready .any ops listed = [i]) (ho : ops[i]? = some o) (hw : Region.wanted o (yielded ops a.tmps) = true) (f : FuncId) (x : Operand) (t : TypeId)
    (hc0 : o.op = .call { callee := .value (.func f), args := #[x], argTypes := #[t] }) (v : Value) (hx : a.eval x = v) (hcf : (callFunc f #[v]).run P w = .ok (.enter f #[v]) w) (R : Ending → World → Prop) (hc : Calls P f #[v] w R)
    (hK : ∀ e w', R e w' → ∃ v, e = .returned v ∧ S w' ∧ (S w' → wpAnyH P .any ops Q S fuel (listed.setIfInBounds i true) (a.put o.dst v) w')) :
    wpAnyH P .any ops Q S (fuel + 1) listed a w := reg_call hr ho hw f #[x] #[t] hc0 #[v] (by simp [hx]) hcf R hc hK
theorem reg_call2 {i : Nat} {o : Oper} (hr : Region.ready .any ops listed = [i]) (ho : ops[i]? = some o) (hw : Region.wanted o (yielded ops a.tmps) = true) (f : FuncId) (x y : Operand) (t u : TypeId)
    (hc0 : o.op = .call { callee := .value (.func f), args := #[x, y], argTypes := #[t, u] }) (v v2 : Value) (hx : a.eval x = v) (hy : a.eval y = v2) (hcf : (callFunc f #[v, v2]).run P w = .ok (.enter f #[v, v2]) w) (R : Ending → World → Prop) (hc : Calls P f #[v, v2] w R)
    (hK : ∀ e w', R e w' → ∃ v, e = .returned v ∧ S w' ∧ (S w' → wpAnyH P .any ops Q S fuel (listed.setIfInBounds i true) (a.put o.dst v) w')) :
    wpAnyH P .any ops Q S (fuel + 1) listed a w := reg_call hr ho hw f #[x, y] #[t, u] hc0 #[v, v2] (by simp [hx, hy]) hcf R hc hK
/-- An operation that yields a value and leaves the world, among those that may come up. -/
theorem arm_value {i : Nat} {o : Oper} (hw : Region.wanted o (yielded ops a.tmps) = true) (v : Value) (hrun : (execOp a.eval o).run P w = .ok (.value v) w) (hS : S w) (h : wpAnyH P .any ops Q S fuel (listed.setIfInBounds i true) (a.put o.dst v) w) :
    ∀ K' : Act → World → Prop, Shut (∀ a w, S w → (S w → wpAnyH P .any ops Q S fuel (listed.setIfInBounds i true) a w) → K' a w) → if Region.wanted o (yielded ops a.tmps) = true then Oper.wp P o a w K' Q else K' (a.put o.dst undef) w := fun K hK => by
  rw [if_pos hw]
  unfold Oper.wp
  rw [hrun]
  exact hK.out _ _ hS fun _ => h
/-- One that yields nothing and turns the world. -/
theorem arm_skip {i : Nat} {o : Oper} (hw : Region.wanted o (yielded ops a.tmps) = true) (w1 : World) (hrun : (execOp a.eval o).run P w = .ok .skip w1) (hS : S w1) (h : wpAnyH P .any ops Q S fuel (listed.setIfInBounds i true) (a.put o.dst undef) w1) :
    ∀ K' : Act → World → Prop, Shut (∀ a w, S w → (S w → wpAnyH P .any ops Q S fuel (listed.setIfInBounds i true) a w) → K' a w) → if Region.wanted o (yielded ops a.tmps) = true then Oper.wp P o a w K' Q else K' (a.put o.dst undef) w := fun K hK => by
  rw [if_pos hw]
  unfold Oper.wp
  rw [hrun]
  exact hK.out _ _ hS fun _ => h
/-- A call of one argument. -/
theorem arm_call1 {i : Nat} {o : Oper} (hw : Region.wanted o (yielded ops a.tmps) = true) (f : FuncId) (x : Operand) (t : TypeId)
    (hc0 : o.op = .call { callee := .value (.func f), args := #[x], argTypes := #[t] }) (v : Value) (hx : a.eval x = v) (hcf : (callFunc f #[v]).run P w = .ok (.enter f #[v]) w) (R : Ending → World → Prop) (hc : Calls P f #[v] w R)
    (hK : ∀ e w', R e w' → ∃ v, e = .returned v ∧ S w' ∧ (S w' → wpAnyH P .any ops Q S fuel (listed.setIfInBounds i true) (a.put o.dst v) w')) :
    ∀ K' : Act → World → Prop, Shut (∀ a w, S w → (S w → wpAnyH P .any ops Q S fuel (listed.setIfInBounds i true) a w) → K' a w) → if Region.wanted o (yielded ops a.tmps) = true then Oper.wp P o a w K' Q else K' (a.put o.dst undef) w := fun K hK2 => by
  rw [if_pos hw]
  have hrun : (execOp a.eval o).run P w = .ok (.enter f #[v]) w := by
    have hf : a.eval (.func f) = .func (.func f) #[] #[] := rfl
    simp [execOp, hc0, resolve, invoke, hx, hf, Deferred.ofValue, hcf]
  unfold Oper.wp
  rw [hrun, Oper.upon_enter]
  refine hc.mono fun e w' h => ?_
  obtain ⟨v, rfl, hs, hk⟩ := hK e w' h
  exact hK2.out _ _ hs hk
/-- A plain move, taken first. -/
theorem reg_load {i : Nat} {o : Oper} (ho : ops[i]? = some o) (hs : Region.noSelect ops = true) (hf : Region.free .any ops listed i = true) (hr : (Region.ready .any ops listed).contains i = true)
    (hQ : ∀ c v a w, Q (.panic c) (a.put o.dst v) w → Q (.panic c) a w) (hw : Region.wanted o (yielded ops a.tmps) = true) (ty : TypeId) (x : Operand) (hl : o.op = .load ty x) (b off : Nat) (hx : a.eval x = .pointer (some ⟨b, off, none⟩)) (cs : List Value) (d : TypeDesc)
    (hS : ∀ w, S w → w.rangeAt b off cs) (hu : P.underlying ty = some d) (hd : d.isRow = true) (hi : (P.info? ty).map (·.size) = some cs.length) (hSw : S w)
    (h : wpAnyH P .any ops Q S fuel (listed.setIfInBounds i true) (a.put o.dst (.agg cs.toArray)) w) : wpAnyH P .any ops Q S (fuel + 1) listed a w :=
  wpAnyH_take ho hs hf hr (fun c a w => hQ c _ a w) (yieldsIf_load_mid hw ty x hl b off hx cs d hS hu hd hi) hSw h
theorem reg_move {i : Nat} {o : Oper} (ho : ops[i]? = some o) (hs : Region.noSelect ops = true) (hf : Region.free .any ops listed i = true) (hr : (Region.ready .any ops listed).contains i = true)
    (hQ : ∀ c v a w, Q (.panic c) (a.put o.dst v) w → Q (.panic c) a w) (hw : Region.wanted o (yielded ops a.tmps) = true) (v : Value) (hv : ∀ w, (execOp a.eval o).run P w = .ok (.value v) w) (hSw : S w)
    (h : wpAnyH P .any ops Q S fuel (listed.setIfInBounds i true) (a.put o.dst v) w) : wpAnyH P .any ops Q S (fuel + 1) listed a w :=
  wpAnyH_take ho hs hf hr (fun c a w => hQ c _ a w) (.inl ⟨hw, fun w _ => hv w⟩) hSw h
end
end Go.Proofs.YtgmpdnmheiblpaaDoor.pg
/- How a goroutine is run: pure lemmas. -/
namespace Go.Proofs.YtgmpdnmheiblpaaDoor.pg
open Go.ChangeShapes Go.WideShapes Go.ChangeAt Go.RowKit
set_option linter.unusedVariables false
section
variable {ap : Int → Int → Int → Int × Int} {lc : Int → Bool} {code : List Ins}
theorem runG_stop {g : Gr} (h : ¬ (g.st = 1 ∧ lc (insAt code g.pc).op = true)) : ∀ f, runG ap lc code f g = g
  | 0 => by rw [runG, if_neg h]
  | _ + 1 => by rw [runG, if_neg h]
theorem runG_zero {g : Gr} (h : g.st = 1 ∧ lc (insAt code g.pc).op = true) : runG ap lc code 0 g = { g with st := 5 } := by rw [runG, if_pos h]
theorem runG_step {g : Gr} (h : g.st = 1 ∧ lc (insAt code g.pc).op = true) (f : Nat) : runG ap lc code (f + 1) g = runG ap lc code f (loc1 ap g (insAt code g.pc)) := by rw [runG, if_pos h]
theorem loc1_st (g : Gr) (i : Ins) (h : g.st = 1) : (loc1 ap g i).st = 1 ∨ (loc1 ap g i).st = 3 ∨ (loc1 ap g i).st = 4 := by
  unfold loc1
  repeat' split
  all_goals first
    | exact .inl h
    | exact .inr (.inl rfl)
    | exact .inr (.inr rfl)
theorem loc1_fn (g : Gr) (i : Ins) : (loc1 ap g i).fn = g.fn := by
  unfold loc1
  repeat' split
  all_goals rfl
theorem runG_fn : ∀ (f : Nat) (g : Gr), (runG ap lc code f g).fn = g.fn
  | 0, g => by rw [runG]; split <;> rfl
  | f + 1, g => by
    rw [runG]
    split
    · rw [runG_fn f, loc1_fn]
    · rfl
/-- One that is spun is live again. -/
def wake (g : Gr) : Gr := if g.st = 5 then { g with st := 1 } else g
theorem wake_not {g : Gr} (h : g.st ≠ 5) : wake g = g := by rw [wake, if_neg h]
theorem wake_fn (g : Gr) : (wake g).fn = g.fn := by unfold wake; split <;> rfl
/-- Fuel adds up. -/
theorem runG_more : ∀ (a b : Nat) (g : Gr), g.st ≠ 5 → runG ap lc code b (wake (runG ap lc code a g)) = runG ap lc code (a + b) g
  | 0, b, g, h => by
    by_cases c : g.st = 1 ∧ lc (insAt code g.pc).op = true
    · rw [runG_zero c, Nat.zero_add]
      have : wake { g with st := 5 } = g := by
        rw [wake, if_pos rfl]
        have := c.1
        cases g
        simp only at this ⊢
        rw [this]
      rw [this]
    · rw [runG_stop c, wake_not h, Nat.zero_add]
  | a + 1, b, g, h => by
    by_cases c : g.st = 1 ∧ lc (insAt code g.pc).op = true
    · rw [runG_step c, Nat.add_right_comm, runG_step c]
      refine runG_more a b _ ?_
      rcases loc1_st (ap := ap) g (insAt code g.pc) c.1 with q | q | q <;> omega
    · rw [runG_stop c, wake_not h, runG_stop c, runG_stop c]
theorem wake_ne (g : Gr) : (wake g).st ≠ 5 := by
  unfold wake
  split
  · show (1 : Int) ≠ 5
    omega
  · assumption
end
end Go.Proofs.YtgmpdnmheiblpaaDoor.pg
/- What is wrong with a program, as plain mathematics: by package prog's order and by the document's own; where they agree. -/
namespace Go.Proofs.YtgmpdnmheiblpaaDoor.pg
set_option linter.unusedVariables false
/-- The first error of a list's elements, 0 if none has one; and at which place. -/
def firstE {α : Type} (g : α → Int) : List α → Int
  | [] => 0
  | x :: t => if g x = 0 then firstE g t else g x
def firstAt {α : Type} (g : α → Int) : List α → Nat → Int × Nat
  | [], k => (0, k)
  | x :: t, k => if g x = 0 then firstAt g t (k + 1) else (g x, k)
theorem firstE_zero {α : Type} (g : α → Int) (l : List α) (h : ∀ x ∈ l, g x = 0) : firstE g l = 0 := by
  induction l with
  | nil => rfl
  | cons x t ih => simp only [firstE, h x (by simp), if_true]; exact ih fun y hy => h y (by simp [hy])
theorem firstE_iff {α : Type} (g : α → Int) (l : List α) : firstE g l = 0 ↔ ∀ x ∈ l, g x = 0 := by
  constructor
  · intro h
    induction l with
    | nil => simp
    | cons x t ih =>
      simp only [firstE] at h
      by_cases hx : g x = 0
      · simp only [hx, if_true] at h
        intro y hy
        rcases List.mem_cons.mp hy with rfl | hy
        · exact hx
        · exact ih h y hy
      · simp only [hx, if_false] at h
  · exact firstE_zero g l
theorem firstE_hit {α : Type} (g : α → Int) (l : List α) (k : Nat) (x : α) (hk : l[k]? = some x) (h : ∀ i y, i < k → l[i]? = some y → g y = 0) (hx : g x ≠ 0) : firstE g l = g x := by
  induction l generalizing k with
  | nil => simp at hk
  | cons y t ih =>
    cases k with
    | zero =>
      simp at hk
      subst hk
      simp [firstE, hx]
    | succ k =>
      simp at hk
      simp only [firstE, h 0 y (by omega) rfl, if_true]
      exact ih k hk fun i z hi hz => h (i + 1) z (by omega) (by simpa using hz)
theorem firstAt_zero {α : Type} (g : α → Int) (l : List α) (j : Nat) (h : ∀ x ∈ l, g x = 0) : firstAt g l j = (0, j + l.length) := by
  induction l generalizing j with
  | nil => rfl
  | cons x t ih =>
    simp only [firstAt, h x (by simp), if_true]
    rw [ih (j + 1) fun y hy => h y (by simp [hy])]
    simp; omega
theorem firstAt_hit {α : Type} (g : α → Int) (l : List α) (j k : Nat) (x : α) (hk : l[k]? = some x) (h : ∀ i y, i < k → l[i]? = some y → g y = 0) (hx : g x ≠ 0) : firstAt g l j = (g x, j + k) := by
  induction l generalizing k j with
  | nil => simp at hk
  | cons y t ih =>
    cases k with
    | zero =>
      simp at hk
      subst hk
      simp [firstAt, hx]
    | succ k =>
      simp at hk
      simp only [firstAt, h 0 y (by omega) rfl, if_true]
      rw [ih (j + 1) k hk fun i z hi hz => h (i + 1) z (by omega) (by simpa using hz)]
      simp; omega
theorem firstAt_fst {α : Type} (g : α → Int) (l : List α) (j : Nat) : (firstAt g l j).1 = firstE g l := by
  induction l generalizing j with
  | nil => rfl
  | cons x t ih =>
    by_cases hx : g x = 0
    · simp only [firstAt, firstE, hx, if_true]; exact ih _
    · simp only [firstAt, firstE, hx, if_false]
/-- How the letters of an operation's form lie: the letter's byte at a place; 0 of what is no operation. -/
def formOf (op : Int) : List Int :=
  if 1 ≤ op ∧ op ≤ 15 then [114, 114, 45, 45] else if 16 ≤ op ∧ op ≤ 36 then [114, 114, 114, 45] else
  if op = 40 ∨ op = 44 ∨ op = 65 then [114, 45, 45, 110] else if op = 41 then [114, 114, 45, 45] else if op = 42 then [116, 45, 45, 45] else if op = 43 then [114, 116, 45, 45] else
  if op = 45 ∨ op = 64 then [45, 45, 45, 45] else if op = 50 then [114, 118, 45, 45] else if op = 51 then [118, 114, 45, 45] else if op = 52 then [111, 97, 114, 45] else if op = 53 then [114, 97, 114, 119] else
  if op = 54 then [97, 114, 45, 45] else if op = 55 ∨ op = 56 then [108, 45, 45, 45] else if op = 57 then [114, 108, 45, 45] else if op = 58 then [99, 114, 45, 45] else if op = 59 then [111, 99, 111, 45] else
  if op = 60 then [99, 45, 45, 45] else if op = 61 then [115, 45, 45, 45] else if op = 62 then [111, 102, 112, 45] else if op = 63 then [114, 45, 45, 45] else []
def lt (op : Int) (j : Nat) : Int := (formOf op).getD j 0
abbrev known (op : Int) : Prop := formOf op ≠ []
def Ins.x (i : Ins) : Nat → Int
  | 0 => i.a
  | 1 => i.b
  | 2 => i.c
  | _ => i.n
abbrev inR (x n : Int) : Prop := 0 ≤ x ∧ x < n
/-- k parameters from the register first on. -/
abbrev roomP (k first regs : Int) : Prop := if k = 0 then first = 0 else if first < 0 then False else first + k ≤ regs
abbrev roomR (k x regs : Int) : Prop := ¬ (k = 0 ∧ x ≠ 0 ∨ 0 < k ∧ (x < 0 ∨ regs - k < x))
def Pr.par (P : Pr) (b : Int) : Int := match P.fns[b.toNat]? with | some f => f.params | none => 0
def Pr.atom (P : Pr) (b : Int) : Bool := match P.vars[b.toNat]? with | some f => f.atomic | none => false
/-- What is wrong with an operand, by its letter; r: whether the parameters have room. -/
def opndE (r : Prop) [Decidable r] (P : Pr) (f : Fn) (l x : Int) : Int :=
  if l = 111 ∧ x = -1 then 0 else
  if l = 111 ∨ l = 114 ∨ l = 119 then (if inR x f.regs then 0 else 35) else
  if l = 112 then (if r then 0 else 35) else
  if l = 97 then (if inR x P.vars.length then (if P.atom x = true then 0 else 37) else 36) else
  if l = 118 then (if inR x P.vars.length then 0 else 36) else
  if l = 108 then (if inR x P.locks then 0 else 36) else
  if l = 99 then (if inR x P.chans.length then 0 else 36) else
  if l = 115 then (if inR x f.sels.length then 0 else 36) else
  if l = 102 then (if inR x P.fns.length then 0 else 36) else
  if l = 116 then (if inR x f.code.length then 0 else 38) else 0
def fst4 (a b c d : Int) : Int := if a = 0 then (if b = 0 then (if c = 0 then d else c) else b) else a
abbrev unused (i : Ins) : Prop := lt i.op 0 = 45 ∧ i.a ≠ 0 ∨ lt i.op 1 = 45 ∧ i.b ≠ 0 ∨ lt i.op 2 = 45 ∧ i.c ≠ 0 ∨ lt i.op 3 = 45 ∧ i.n ≠ 0
/-- What is wrong with an instruction. -/
def insE (r : Prop) [Decidable r] (P : Pr) (f : Fn) (i : Ins) : Int :=
  if known i.op then (if unused i then 34 else fst4 (opndE r P f (lt i.op 0) i.a) (opndE r P f (lt i.op 1) i.b) (opndE r P f (lt i.op 2) i.c) (opndE r P f (lt i.op 3) i.n)) else 33
def insP (P : Pr) (f : Fn) (i : Ins) : Int := insE (roomP (P.par i.b) i.c f.regs) P f i
def insR (P : Pr) (f : Fn) (i : Ins) : Int := insE (roomR (P.par i.b) i.c f.regs) P f i
def Pr.room (P : Pr) (c : Int) : Int := match P.chans[c.toNat]? with | some x => x | none => 0
/-- What is wrong with a case, a select. -/
def casE (P : Pr) (f : Fn) (c : Cas) : Int :=
  if inR c.ch P.chans.length then (if inR c.reg f.regs ∨ c.reg = -1 ∧ c.send = false then (if c.send = true ∧ P.room c.ch = 0 then 37 else if inR c.to f.code.length then 0 else 38) else 35) else 36
def selE (P : Pr) (f : Fn) (s : Sel) : Int :=
  if firstE (casE P f) s.cases = 0 then (if s.els = -1 ∨ inR s.els f.code.length then 0 else 38) else firstE (casE P f) s.cases
abbrev shaped (f : Fn) : Prop := (0 ≤ f.regs ∧ f.regs ≤ 8) ∧ (0 ≤ f.params ∧ f.params ≤ f.regs) ∧ (1 ≤ f.code.length ∧ f.code.length ≤ 64) ∧ f.sels.length ≤ 4 ∧ ∀ s ∈ f.sels, 1 ≤ s.cases.length ∧ s.cases.length ≤ 4
abbrev ends (op : Int) : Prop := op = 42 ∨ op = 45 ∨ op = 61
def lastOp (f : Fn) : Int := match f.code.getLast? with | some i => i.op | none => 0
/-- What is wrong with a function, and at which place. -/
def fnE (ins : Pr → Fn → Ins → Int) (P : Pr) (n : Nat) (f : Fn) : Int × Int :=
  if shaped f ∧ (n = 0 → f.params = 0) then
    (if firstE (selE P f) f.sels = 0 then
      (if firstE (ins P f) f.code = 0 then (if ends (lastOp f) then (0, 0) else (39, (f.code.length : Int) - 1)) else ((firstAt (ins P f) f.code 0).1, ((firstAt (ins P f) f.code 0).2 : Int)))
    else (firstE (selE P f) f.sels, 0))
  else (32, 0)
def sizesE (P : Pr) : Int :=
  if P.vars.length ≤ 8 ∧ (0 ≤ P.locks ∧ P.locks ≤ 4) ∧ P.chans.length ≤ 4 ∧ (1 ≤ P.fns.length ∧ P.fns.length ≤ 8) then firstE (fun c => if 0 ≤ c ∧ c ≤ 4 then 0 else 31) P.chans else 30
def fnsE (ins : Pr → Fn → Ins → Int) (P : Pr) : List Fn → Nat → Int × Int × Int
  | [], _ => (0, 0, 0)
  | f :: t, n => if (fnE ins P n f).1 = 0 then fnsE ins P t (n + 1) else ((fnE ins P n f).1, n, (fnE ins P n f).2)
def chk (ins : Pr → Fn → Ins → Int) (P : Pr) : Int × Int × Int := if sizesE P = 0 then fnsE ins P P.fns 0 else (sizesE P, 0, 0)
theorem fnsE_zero (ins : Pr → Fn → Ins → Int) (P : Pr) (l : List Fn) (j : Nat) (h : ∀ i f, l[i]? = some f → (fnE ins P (j + i) f).1 = 0) : fnsE ins P l j = (0, 0, 0) := by
  induction l generalizing j with
  | nil => rfl
  | cons x t ih =>
    have h0 := h 0 x rfl
    rw [Nat.add_zero] at h0
    simp only [fnsE, h0, if_true]
    exact ih (j + 1) fun i f hf => by have := h (i + 1) f (by simpa using hf); rwa [show j + 1 + i = j + (i + 1) by omega]
theorem fnsE_hit (ins : Pr → Fn → Ins → Int) (P : Pr) (l : List Fn) (j k : Nat) (x : Fn) (hk : l[k]? = some x) (h : ∀ i f, i < k → l[i]? = some f → (fnE ins P (j + i) f).1 = 0) (hx : (fnE ins P (j + k) x).1 ≠ 0) :
    fnsE ins P l j = ((fnE ins P (j + k) x).1, ((j + k : Nat) : Int), (fnE ins P (j + k) x).2) := by
  induction l generalizing j k with
  | nil => simp at hk
  | cons y t ih =>
    cases k with
    | zero =>
      simp at hk
      subst hk
      rw [Nat.add_zero] at hx ⊢
      simp only [fnsE, hx, if_false]
    | succ k =>
      simp at hk
      have h0 := h 0 y (by omega) rfl
      rw [Nat.add_zero] at h0
      simp only [fnsE, h0, if_true]
      rw [show j + (k + 1) = j + 1 + k by omega] at hx ⊢
      exact ih (j + 1) k hk (fun i f hi hf => by have := h (i + 1) f (by omega) (by simpa using hf); rwa [show j + 1 + i = j + (i + 1) by omega]) hx
theorem casE_obj {P : Pr} {f : Fn} {c : Cas} (h : ¬ inR c.ch P.chans.length) : casE P f c = 36 := by unfold casE; rw [if_neg h]
theorem casE_reg {P : Pr} {f : Fn} {c : Cas} (h : inR c.ch P.chans.length) (h2 : ¬ (inR c.reg f.regs ∨ c.reg = -1 ∧ c.send = false)) : casE P f c = 35 := by unfold casE; rw [if_pos h, if_neg h2]
theorem casE_kind {P : Pr} {f : Fn} {c : Cas} (h : inR c.ch P.chans.length) (h2 : inR c.reg f.regs ∨ c.reg = -1 ∧ c.send = false) (h3 : c.send = true ∧ P.room c.ch = 0) : casE P f c = 37 := by unfold casE; rw [if_pos h, if_pos h2, if_pos h3]
theorem casE_target {P : Pr} {f : Fn} {c : Cas} (h : inR c.ch P.chans.length) (h2 : inR c.reg f.regs ∨ c.reg = -1 ∧ c.send = false) (h3 : ¬ (c.send = true ∧ P.room c.ch = 0)) (h4 : ¬ inR c.to f.code.length) : casE P f c = 38 := by
  unfold casE; rw [if_pos h, if_pos h2, if_neg h3, if_neg h4]
theorem casE_ok {P : Pr} {f : Fn} {c : Cas} (h : inR c.ch P.chans.length) (h2 : inR c.reg f.regs ∨ c.reg = -1 ∧ c.send = false) (h3 : ¬ (c.send = true ∧ P.room c.ch = 0)) (h4 : inR c.to f.code.length) : casE P f c = 0 := by
  unfold casE; rw [if_pos h, if_pos h2, if_neg h3, if_pos h4]
end Go.Proofs.YtgmpdnmheiblpaaDoor.pg
