/- A region that draws its order and hands something out: reads are taken first, under a condition on the world that is held till then. -/
import Derived.Test.YtkadlopcomjonaaM4
import Derived.OrdersHeld
import Derived.Test.YtkadlopcomjonaaM2
import Derived.SizedLaws
namespace Go.Proofs.Ytkadlopcomjonaa.pg
open Go.ChangeShapes Go.WideShapes Go.ChangeAt Go.RowKit
set_option linter.unusedVariables false
set_option linter.unusedSimpArgs false
section
variable {P : Program} {ops : Array Oper} {Q : Exit → Act → World → Prop} {md : Region.Mode} {S : World → Prop} {n y : Nat}
/-- What an operation comes to, with another one's value put ahead of it. -/
theorem upon_shift {o : Oper} {a : Act} {d : Option Tmp} {v : Value} {K K' : Act → World → Prop}
    (h1 : ∀ u w', K ((a.put d v).put o.dst u) w' → K' (a.put o.dst u) w')
    (h2 : ∀ x w', K (({ a.put d v with defers := x :: (a.put d v).defers } : Act).put o.dst undef) w' → K' (({ a with defers := x :: a.defers } : Act).put o.dst undef) w')
    (h3 : ∀ c w', Q (.panic c) (a.put d v) w' → Q (.panic c) a w') (r : Result Next)
    (h : o.uponIn Fence.wide n P (a.put d v) K Q r) : o.uponIn Fence.wide n P a K' Q r := by
  cases r with
  | ok x w' =>
    cases x with
    | value u => exact h1 u w' h
    | skip => exact h1 _ w' h
    | defer c => exact h2 c w' h
    | enter f args => exact ⟨h.1, h.2.mono fun e w2 he => by
        cases e with
        | returned u => exact h1 u w2 he
        | panicked c => exact h3 c w2 he
        | outgrown => exact he⟩
    | row x args => exact ⟨h.1, h.2.mono fun u w2 he => h1 u w2 he⟩
    | round l f ts asg bd => exact ⟨h.1, h.2.mono fun e w2 he => by
        cases e with
        | returned u => exact h1 u w2 he
        | panicked c => exact h3 c w2 he
        | outgrown => exact he⟩
    | _ => exact h
  | halt x w' =>
    cases x with
    | panic u => exact h3 _ w' h
    | _ => exact h
theorem op_shift {j : Nat} {oi oj : Oper} {v : Value} (hj : ops[j]? = some oj) (hap : oi.apart ops oj = true) (hsi : ∀ cs b, oi.op ≠ .select cs b) (hsj : ∀ cs b, oj.op ≠ .select cs b)
    (hQ : ∀ c a w, Q (.panic c) (a.put oi.dst v) w → Q (.panic c) a w) {K : Act → World → Prop} {a : Act} {w : World} (hy : YieldsIf P ops S oi v a) (h : wpOpIn Fence.wide n P ops Q j K (a.put oi.dst v) w) :
    wpOpIn Fence.wide n P ops Q j (fun a' w' => YieldsIf P ops S oi v a' ∧ K (a'.put oi.dst v) w') a w := by
  obtain ⟨g1, g2, g3⟩ := Oper.apart_spec hap
  have keep : ∀ (a0 : Act), YieldsIf P ops S oi v a0 → ∀ u, YieldsIf P ops S oi v (a0.put oj.dst u) := fun a0 q u => q.of_same (execOp_put oi hsi a0 oj.dst u g3) (wanted_put oi a0 oj.dst u g3)
  unfold wpOpIn at h ⊢
  simp only [hj] at h ⊢
  rw [wanted_put oj a oi.dst v g1] at h
  by_cases hw : Region.wanted oj (yielded ops a.tmps) = true
  · rw [if_pos hw] at h ⊢
    unfold Oper.wpIn at h ⊢
    refine ⟨fun f _ => trivial, ?_⟩
    have h := h.2
    rw [show Fence.wide.round = none from rfl, Oper.semAt_none] at h ⊢
    rw [execOp_put oj hsj a oi.dst v g1] at h
    refine upon_shift (fun u w' q => ?_) (fun x w' q => ?_) (fun c w' q => hQ c a w' q) _ h
    · rw [Act.put_comm a v u g2] at q
      exact ⟨keep a hy u, q⟩
    · rw [Act.put_defers, Act.put_comm _ v undef g2] at q
      exact ⟨keep { a with defers := x :: a.defers } (hy.of_same rfl rfl) undef, q⟩
  · rw [if_neg hw] at h ⊢
    refine ⟨fun f _ => trivial, keep a hy _, ?_⟩
    rw [← Act.put_comm a v undef g2]
    exact h.2
/-- Whatever order is drawn from here on; the condition holds behind every operation till the one that hands out. -/
def wpAnyY (n : Nat) (P : Program) (md : Region.Mode) (ops : Array Oper) (Q : Exit → Act → World → Prop) (S : World → Prop) (y : Nat) : Nat → Array Bool → Act → World → Prop
  | 0, listed, a, w => Region.ready md ops listed = [] ∧ Q .normal a w
  | fuel + 1, listed, a, w => (Region.ready md ops listed = [] → Q .normal a w) ∧
    ∀ i ∈ Region.ready md ops listed, wpOpIn Fence.wide n P ops Q i (fun a' w' => if i = y then wpAnyIn Fence.wide n P md ops Q fuel (listed.setIfInBounds i true) a' w' else S w' ∧ wpAnyY n P md ops Q S y fuel (listed.setIfInBounds i true) a' w') a w
theorem any_of_y : ∀ (fuel : Nat) (listed : Array Bool) (a : Act) (w : World), wpAnyY n P md ops Q S y fuel listed a w → wpAnyIn Fence.wide n P md ops Q fuel listed a w
  | 0, _, _, _, h => h
  | fuel + 1, _, _, _, h => ⟨h.1, fun i hi => wpOpIn_mono (fun a' w' q => by
      by_cases e : i = y
      · rw [if_pos e] at q; exact q
      · rw [if_neg e] at q; exact any_of_y fuel _ a' w' q.2) (h.2 i hi)⟩
/-- What may come up while one is held back. -/
def growC (md : Region.Mode) (ops : Array Oper) (i : Nat) (C : Array Bool) : Array Bool :=
  (List.range ops.size).foldl (fun C j => if !(j == i) && ((ops[j]?).map (·.after.all fun e => !Region.binds md e || C.getD e.on false)).getD false then C.setIfInBounds j true else C) C
def okC' (md : Region.Mode) (ops : Array Oper) (i y : Nat) (listed C : Array Bool) : Bool :=
  !C.getD y true && (C.size == ops.size) && ((List.range listed.size).all fun j => !listed.getD j false || C.getD j false) &&
    ((List.range ops.size).all fun j => j == i || C.getD j false || !((ops[j]?).map (·.after.all fun e => !Region.binds md e || C.getD e.on false)).getD false)
def canY (md : Region.Mode) (ops : Array Oper) (listed : Array Bool) (i y : Nat) : Bool := okC' md ops i y listed (growC md ops i listed)
structure HeldC (md : Region.Mode) (ops : Array Oper) (i y : Nat) (C : Array Bool) : Prop where
  y : C.getD y true = false
  z : C.size = ops.size
  c : ∀ (j : Nat) (o : Oper), ops[j]? = some o → j ≠ i → (∀ e ∈ o.after, Region.binds md e = true → C.getD e.on false = true) → C.getD j false = true
theorem held_of {listed C : Array Bool} {i : Nat} (h : okC' md ops i y listed C = true) : HeldC md ops i y C ∧ ∀ j, listed.getD j false = true → C.getD j false = true := by
  unfold okC' at h
  simp only [Bool.and_eq_true, Bool.not_eq_true', beq_iff_eq] at h
  obtain ⟨⟨⟨h1, h2⟩, h3⟩, h4⟩ := h
  rw [List.all_eq_true] at h3 h4
  refine ⟨⟨h1, h2, fun j o ho hji hall => ?_⟩, fun j hj => ?_⟩
  · have hlt := (Array.getElem?_eq_some_iff.mp ho).1
    have q := h4 j (List.mem_range.mpr hlt)
    simp only [ho, Option.map_some, Option.getD_some, Bool.or_eq_true, beq_iff_eq, Bool.not_eq_true'] at q
    rcases q with (q | q) | q
    · exact absurd q hji
    · exact q
    · exfalso
      have : (o.after.all fun e => !Region.binds md e || C.getD e.on false) = true := by
        rw [Array.all_eq_true_iff_forall_mem]
        intro e he
        cases hb : Region.binds md e with
        | false => rfl
        | true => rw [hall e he hb]; rfl
      rw [this] at q; cases q
  · by_cases hl : j < listed.size
    · have q := h3 j (List.mem_range.mpr hl)
      rw [hj] at q
      simpa using q
    · exfalso
      have : listed.getD j false = false := by simp [Array.getD, hl]
      rw [this] at hj; cases hj
theorem held_ready {listed C : Array Bool} {i j : Nat} (hC : HeldC md ops i y C) (hl : ∀ j, listed.getD j false = true → C.getD j false = true) (hj : j ∈ Region.ready md ops listed) (hji : j ≠ i) : j ≠ y ∧ ∀ k, (listed.setIfInBounds j true).getD k false = true → C.getD k false = true := by
  obtain ⟨_, o, ho, hall⟩ := mem_ready.1 hj
  have hc := hC.c j o ho hji fun e he hb => hl _ (hall e he hb)
  refine ⟨fun e => ?_, fun k hk => ?_⟩
  · subst e
    have h1 := hC.y
    have hlt : j < C.size := by rw [hC.z]; exact (Array.getElem?_eq_some_iff.mp ho).1
    simp [Array.getD, hlt] at h1 hc
    rw [h1] at hc; cases hc
  · by_cases e : j = k
    · rw [← e]; exact hc
    · rw [getD_set_ne false e] at hk; exact hl k hk
theorem y_first {i : Nat} {oi : Oper} {v : Value} {C : Array Bool} (hi : ops[i]? = some oi) (hsel : ∀ (j : Nat) (o : Oper) cs b, ops[j]? = some o → o.op ≠ .select cs b)
    (hQ : ∀ c a w, Q (.panic c) (a.put oi.dst v) w → Q (.panic c) a w) (hC : HeldC md ops i y C) (hiy : i ≠ y) :
    ∀ (fuel : Nat) (listed : Array Bool) (a : Act) (w : World),
      (∀ j oj, ops[j]? = some oj → j ≠ i → listed.getD j true = false → (∀ e ∈ oj.after, Region.binds md e = true → e.on ≠ i) → oi.apart ops oj = true) →
      (∀ j, listed.getD j false = true → C.getD j false = true) →
      i ∈ Region.ready md ops listed → YieldsIf P ops S oi v a → S w →
      wpAnyY n P md ops Q S y fuel (listed.setIfInBounds i true) (a.put oi.dst v) w → wpAnyY n P md ops Q S y (fuel + 1) listed a w := by
  have own : ∀ (K : Act → World → Prop) (a : Act) (w : World), YieldsIf P ops S oi v a → S w → K (a.put oi.dst v) w → wpOpIn Fence.wide n P ops Q i K a w := fun K a w hy hS hK => by
    unfold wpOpIn
    simp only [hi]
    rcases hy with ⟨hw, hv⟩ | ⟨hw, rfl⟩
    · rw [if_pos hw]
      unfold Oper.wpIn
      refine ⟨fun f _ => trivial, ?_⟩
      rw [show Fence.wide.round = none from rfl, Oper.semAt_none, hv w hS]
      exact hK
    · rw [if_neg (by rw [hw]; simp)]
      exact ⟨fun f _ => trivial, hK⟩
  intro fuel
  induction fuel with
  | zero =>
    intro listed a w _ _ hr hy hS H
    refine ⟨fun h => (by rw [h] at hr; cases hr), fun j hj => ?_⟩
    by_cases hji : j = i
    · subst hji
      exact own _ a w hy hS (by rw [if_neg hiy]; exact ⟨hS, H⟩)
    · have := ready_mono hj hji
      rw [H.1] at this
      cases this
  | succ fuel ih =>
    intro listed a w hfree hl hr hy hS H
    refine ⟨fun h => (by rw [h] at hr; cases hr), fun j hj => ?_⟩
    by_cases hji : j = i
    · subst hji
      exact own _ a w hy hS (by rw [if_neg hiy]; exact ⟨hS, H⟩)
    · obtain ⟨hjy, hl2⟩ := held_ready hC hl hj hji
      have h1 := H.2 j (ready_mono hj hji)
      simp only [if_neg hjy] at h1 ⊢
      obtain ⟨hjun, oj, hoj, hall⟩ := mem_ready.1 hj
      have hir := (mem_ready.1 hr).1
      have hnot : ∀ e ∈ oj.after, Region.binds md e = true → e.on ≠ i := fun e he hb q => by
        have h3 := hall e he hb
        rw [q] at h3
        by_cases hs : i < listed.size
        · simp [Array.getD, hs] at hir h3
          rw [hir] at h3; cases h3
        · simp [Array.getD, hs] at h3
      have h2 := op_shift (S := S) hoj (hfree j oj hoj hji hjun hnot) (fun cs b => hsel i oi cs b hi) (fun cs b => hsel j oj cs b hoj) hQ hy h1
      refine wpOpIn_mono (fun a' w' h3 => ⟨h3.2.1, ih (listed.setIfInBounds j true) a' w' (fun k ok hk hki hun hno => hfree k ok hk hki ?_ hno) hl2 (ready_mono hr (Ne.symm hji)) h3.1 h3.2.1 ?_⟩) h2
      · by_cases e : j = k
        · subst e; exact hjun
        · rwa [getD_set_ne true e] at hun
      · rw [Array.setIfInBounds_comm _ _ hji]
        exact h3.2.2
section
variable {fuel : Nat} {listed : Array Bool} {a : Act} {w : World}
theorem y_take {i : Nat} {o : Oper} {v : Value} (hi : ops[i]? = some o) (hs : Region.noSelect ops = true) (hf : Region.free md ops listed i = true) (hr : (Region.ready md ops listed).contains i = true) (hc : canY md ops listed i y = true) (hiy : (i == y) = false)
    (hQ : ∀ c a w, Q (.panic c) (a.put o.dst v) w → Q (.panic c) a w) (hy : YieldsIf P ops S o v a) (hS : S w)
    (h : wpAnyY n P md ops Q S y fuel (listed.setIfInBounds i true) (a.put o.dst v) w) : wpAnyY n P md ops Q S y (fuel + 1) listed a w := by
  obtain ⟨h1, h2⟩ := held_of hc
  exact y_first hi (Region.noSelect_spec hs) hQ h1 (by simpa using hiy) fuel listed a w (Region.free_spec hi hf) h2 (by simpa using hr) hy hS h
/-- What yields in whatever world. -/
theorem y_move {i : Nat} {o : Oper} (hi : ops[i]? = some o) (hs : Region.noSelect ops = true) (hf : Region.free md ops listed i = true) (hr : (Region.ready md ops listed).contains i = true) (hc : canY md ops listed i y = true) (hiy : (i == y) = false)
    (hQ : ∀ c v a w, Q (.panic c) (a.put o.dst v) w → Q (.panic c) a w) (hw : Region.wanted o (yielded ops a.tmps) = true) (v : Value) (hv : ∀ w, (execOp a.eval o).run P w = .ok (.value v) w) (hS : S w)
    (h : wpAnyY n P md ops Q S y fuel (listed.setIfInBounds i true) (a.put o.dst v) w) : wpAnyY n P md ops Q S y (fuel + 1) listed a w :=
  y_take hi hs hf hr hc hiy (fun c a w => hQ c _ a w) (.inl ⟨hw, fun w _ => hv w⟩) hS h
/-- One that is passed over. -/
theorem y_skip {i : Nat} {o : Oper} (hi : ops[i]? = some o) (hs : Region.noSelect ops = true) (hf : Region.free md ops listed i = true) (hr : (Region.ready md ops listed).contains i = true) (hc : canY md ops listed i y = true) (hiy : (i == y) = false)
    (hQ : ∀ c v a w, Q (.panic c) (a.put o.dst v) w → Q (.panic c) a w) (hw : Region.wanted o (yielded ops a.tmps) = false) (hS : S w)
    (h : wpAnyY n P md ops Q S y fuel (listed.setIfInBounds i true) (a.put o.dst undef) w) : wpAnyY n P md ops Q S y (fuel + 1) listed a w :=
  y_take hi hs hf hr hc hiy (fun c a w => hQ c _ a w) (.inr ⟨hw, rfl⟩) hS h
/-- A load of one cell. -/
theorem y_load1 {i : Nat} {o : Oper} (hi : ops[i]? = some o) (hs : Region.noSelect ops = true) (hf : Region.free md ops listed i = true) (hr : (Region.ready md ops listed).contains i = true) (hc : canY md ops listed i y = true) (hiy : (i == y) = false)
    (hQ : ∀ c v a w, Q (.panic c) (a.put o.dst v) w → Q (.panic c) a w) (hw : Region.wanted o (yielded ops a.tmps) = true) (ty : TypeId) (x : Operand) (hl : o.op = .load ty x) (ad : Addr) (hx : a.eval x = .pointer (some ad)) (d : TypeDesc) (hu : P.underlying ty = some d) (hd : d.isRow = false) (v : Value)
    (hSc : ∀ w, S w → w.cell? ad = some v) (hS : S w)
    (h : wpAnyY n P md ops Q S y fuel (listed.setIfInBounds i true) (a.put o.dst v) w) : wpAnyY n P md ops Q S y (fuel + 1) listed a w :=
  y_take hi hs hf hr hc hiy (fun c a w => hQ c _ a w) (.inl ⟨hw, fun w h => run_load1 ty x hl ad hx d hu hd (hSc w h)⟩) hS h
/-- A load of many cells. -/
theorem y_loads {i : Nat} {o : Oper} (hi : ops[i]? = some o) (hs : Region.noSelect ops = true) (hf : Region.free md ops listed i = true) (hr : (Region.ready md ops listed).contains i = true) (hc : canY md ops listed i y = true) (hiy : (i == y) = false)
    (hQ : ∀ c v a w, Q (.panic c) (a.put o.dst v) w → Q (.panic c) a w) (hw : Region.wanted o (yielded ops a.tmps) = true) (ty : TypeId) (x : Operand) (hl : o.op = .load ty x) (b off : Nat) (hx : a.eval x = .pointer (some ⟨b, off, none⟩)) (cs : List Value) (d : TypeDesc)
    (hSc : ∀ w, S w → w.rangeAt b off cs) (hu : P.underlying ty = some d) (hd : d.isRow = true) (hz : (P.info? ty).map (·.size) = some cs.length) (hS : S w)
    (h : wpAnyY n P md ops Q S y fuel (listed.setIfInBounds i true) (a.put o.dst (.agg cs.toArray)) w) : wpAnyY n P md ops Q S y (fuel + 1) listed a w :=
  y_take hi hs hf hr hc hiy (fun c a w => hQ c _ a w) (yieldsIf_load_mid hw ty x hl b off hx cs d hSc hu hd hz) hS h
/-- A call, the only one that may come up. -/
theorem y_call {i : Nat} {o : Oper} (hr : Region.ready md ops listed = [i]) (hiy : (i == y) = false) (ho : ops[i]? = some o) (hw : Region.wanted o (yielded ops a.tmps) = true) (f : FuncId) (xs : Array Operand) (ts : Array TypeId)
    (hc0 : o.op = .call { callee := .value (.func f), args := xs, argTypes := ts }) (vs : Array Value) (hx : xs.map a.eval = vs) (hcf : (callFunc f vs).run P w = .ok (.enter f vs) w) (R : Ending → World → Prop) (hc : Calls P f vs w R)
    (hK : ∀ e w', R e w' → ∃ v, e = .returned v ∧ S w' ∧ wpAnyY n P md ops Q S y fuel (listed.setIfInBounds i true) (a.put o.dst v) w') :
    wpAnyY n P md ops Q S y (fuel + 1) listed a w := by
  have hne : i ≠ y := by simpa using hiy
  refine ⟨fun h => (by rw [hr] at h; cases h), fun j hj => ?_⟩
  rw [hr, List.mem_singleton] at hj
  subst hj
  simp only [if_neg hne]
  unfold wpOpIn
  simp only [ho]
  rw [if_pos hw]
  have hrun : (execOp a.eval o).run P w = .ok (.enter f vs) w := by
    have hf : a.eval (.func f) = .func (.func f) #[] #[] := rfl
    simp [execOp, hc0, resolve, invoke, hx, hf, Deferred.ofValue, hcf]
  unfold Oper.wpIn
  refine ⟨fun f _ => trivial, ?_⟩
  rw [show Fence.wide.round = none from rfl, Oper.semAt_none, hrun]
  refine ⟨fun h => (by cases h), callsIn_wide.2 (hc.mono fun e w' h => ?_)⟩
  obtain ⟨v, rfl, q⟩ := hK e w' h
  exact q
theorem y_call3 {i : Nat} {o : Oper} (hr : Region.ready md ops listed = [i]) (hiy : (i == y) = false) (ho : ops[i]? = some o) (hw : Region.wanted o (yielded ops a.tmps) = true) (f : FuncId) (x1 x2 x3 : Operand) (t1 t2 t3 : TypeId)
    (hc0 : o.op = .call { callee := .value (.func f), args := #[x1, x2, x3], argTypes := #[t1, t2, t3] }) (v1 v2 v3 : Value) (h1 : a.eval x1 = v1) (h2 : a.eval x2 = v2) (h3 : a.eval x3 = v3) (hcf : (callFunc f #[v1, v2, v3]).run P w = .ok (.enter f #[v1, v2, v3]) w) (R : Ending → World → Prop) (hc : Calls P f #[v1, v2, v3] w R)
    (hK : ∀ e w', R e w' → ∃ v, e = .returned v ∧ S w' ∧ wpAnyY n P md ops Q S y fuel (listed.setIfInBounds i true) (a.put o.dst v) w') :
    wpAnyY n P md ops Q S y (fuel + 1) listed a w := y_call hr hiy ho hw f #[x1, x2, x3] #[t1, t2, t3] hc0 #[v1, v2, v3] (by simp [h1, h2, h3]) hcf R hc hK
/-- What is handed out. -/
theorem y_yield {m l : Nat} {o : Oper} (hr : Region.ready md ops listed = [y]) (ho : ops[y]? = some o) (hw : Region.wanted o (yielded ops a.tmps) = true) (x : Operand) (xs : Array Operand) (ts : Array TypeId)
    (hc0 : o.op = .call { callee := .value x, args := xs, argTypes := ts }) (hxf : a.eval x = .func (.yield l) #[] #[]) (vs : Array Value) (hx : xs.map a.eval = vs) (R : Ending → World → Prop) (hY : YieldAt Fence.wide m P l vs w R)
    (hK : ∀ e w', R e w' → ∃ v, e = .returned v ∧ wpAnyIn Fence.wide n P md ops Q fuel (listed.setIfInBounds y true) (a.put o.dst v) w') :
    wpAnyY n P md ops Q S y (fuel + 1) listed a w := by
  refine ⟨fun h => (by rw [hr] at h; cases h), fun j hj => ?_⟩
  rw [hr, List.mem_singleton] at hj
  subst hj
  simp only [if_true]
  unfold wpOpIn
  simp only [ho]
  rw [if_pos hw]
  obtain ⟨fn, tmps, assign, body, hrun0, hR⟩ := hY
  have hrun : (execOp a.eval o).run P w = .ok (.round l fn tmps assign body) w := by
    simp [execOp, hc0, resolve, invoke, hx, hxf, Deferred.ofValue, hrun0]
  unfold Oper.wpIn
  refine ⟨fun f _ => trivial, ?_⟩
  rw [show Fence.wide.round = none from rfl, Oper.semAt_none, hrun]
  refine ⟨fun h => (by cases h), ?_⟩
  have hR2 : RoundIn Fence.wide (n - 1) P l fn tmps assign body w R := ⟨hR.1, fun c cs _ => hR.2 c cs (fun d q => by cases q)⟩
  refine hR2.mono fun e w' h => ?_
  obtain ⟨v, rfl, q⟩ := hK e w' h
  exact q
theorem y_yield1 {m l : Nat} {o : Oper} (hr : Region.ready md ops listed = [y]) (ho : ops[y]? = some o) (hw : Region.wanted o (yielded ops a.tmps) = true) (x x1 : Operand) (t1 : TypeId)
    (hc0 : o.op = .call { callee := .value x, args := #[x1], argTypes := #[t1] }) (hxf : a.eval x = .func (.yield l) #[] #[]) (v1 : Value) (h1 : a.eval x1 = v1) (R : Ending → World → Prop) (hY : YieldAt Fence.wide m P l #[v1] w R)
    (hK : ∀ e w', R e w' → ∃ v, e = .returned v ∧ wpAnyIn Fence.wide n P md ops Q fuel (listed.setIfInBounds y true) (a.put o.dst v) w') :
    wpAnyY n P md ops Q S y (fuel + 1) listed a w := y_yield hr ho hw x #[x1] #[t1] hc0 hxf #[v1] (by simp [h1]) R hY hK
theorem y_done (hr : Region.ready md ops listed = []) (h : Q .normal a w) : ∀ fuel, wpAnyY n P md ops Q S y fuel listed a w
  | 0 => ⟨hr, h⟩
  | _ + 1 => ⟨fun _ => h, by rw [hr]; simp⟩
/-- It begins. -/
theorem y_region {id : Nat} (S : World → Prop) (y : Nat) (hm : P.follows .mixedOrders = true) (h : wpAnyY n P .any ops Q S y ops.size (Array.replicate ops.size false) a w.drew) : (Code.region id ops true).wpIn Fence.wide n P Q a w :=
  wpIn_region_any hm (any_of_y _ _ _ _ h)
end
end
end Go.Proofs.Ytkadlopcomjonaa.pg
/- More moves in a region that draws its order, under a condition that is held till one operation. -/
namespace Go.Proofs.Ytkadlopcomjonaa.pg
open Go.ChangeShapes Go.WideShapes Go.ChangeAt Go.RowKit
set_option linter.unusedVariables false
set_option linter.unusedSimpArgs false
section
variable {P : Program} {ops : Array Oper} {Q : Exit → Act → World → Prop} {md : Region.Mode} {S : World → Prop} {n y : Nat} {fuel : Nat} {listed : Array Bool} {a : Act} {w : World}
theorem op_wide {o : Oper} {K : Act → World → Prop} (h : o.wp P a w K Q) : o.wpIn Fence.wide n P a w K Q := by
  unfold Oper.wp at h
  unfold Oper.wpIn
  refine ⟨fun f _ => trivial, ?_⟩
  rw [show Fence.wide.round = none from rfl, Oper.semAt_none]
  generalize (execOp a.eval o).run P w = r at *
  cases r with
  | ok x w' =>
    cases x <;> simp only [Oper.upon, Oper.uponIn] at h ⊢ <;> first
      | exact h
      | exact ⟨fun q => (by cases q), callsIn_wide.2 h⟩
      | exact ⟨fun q => (by cases q), fun c cs _ => let ⟨v, w', r, s⟩ := h c cs; ⟨v, w', r, stepsIn_wide.2 s⟩⟩
  | halt x w' => cases x <;> simp only [Oper.upon, Oper.uponIn] at h ⊢ <;> exact h
theorem op_of_list {i : Nat} {o : Oper} {K : Act → World → Prop} (ho : ops[i]? = some o) (hw : Region.wanted o (yielded ops a.tmps) = true) (h : wpList P ops (okQ K) [o] a w) : wpOpIn Fence.wide n P ops Q i K a w := by
  unfold wpOpIn
  simp only [ho]
  rw [if_pos hw]
  unfold wpList at h
  rw [if_pos hw] at h
  rcases h with h | h
  · exact op_wide (op_two (fun a' w' q => q) h)
  · exact (okQ_out _ h.2).elim
/-- The only one that may come up, by a law of lists. -/
theorem y_one {i : Nat} {o : Oper} (hr : Region.ready md ops listed = [i]) (hiy : (i == y) = false) (ho : ops[i]? = some o) (hw : Region.wanted o (yielded ops a.tmps) = true)
    (h : wpList P ops (okQ fun a' w' => S w' ∧ wpAnyY n P md ops Q S y fuel (listed.setIfInBounds i true) a' w') [o] a w) : wpAnyY n P md ops Q S y (fuel + 1) listed a w := by
  refine ⟨fun q => (by rw [hr] at q; cases q), fun j hj => ?_⟩
  rw [hr, List.mem_singleton] at hj
  subst hj
  simp only [if_neg (show ¬ j = y by simpa using hiy)]
  exact op_of_list ho hw h
/-- The one till which the condition is held, by a law of lists. -/
theorem y_leave {o : Oper} (hr : Region.ready md ops listed = [y]) (ho : ops[y]? = some o) (hw : Region.wanted o (yielded ops a.tmps) = true)
    (h : wpList P ops (okQ fun a' w' => wpAnyIn Fence.wide n P md ops Q fuel (listed.setIfInBounds y true) a' w') [o] a w) : wpAnyY n P md ops Q S y (fuel + 1) listed a w := by
  refine ⟨fun q => (by rw [hr] at q; cases q), fun j hj => ?_⟩
  rw [hr, List.mem_singleton] at hj
  subst hj
  simp only [if_true]
  exact op_of_list ho hw h
/-- It is passed over. -/
theorem y_pass {o : Oper} (hr : Region.ready md ops listed = [y]) (ho : ops[y]? = some o) (hw : Region.wanted o (yielded ops a.tmps) = false)
    (h : wpAnyIn Fence.wide n P md ops Q fuel (listed.setIfInBounds y true) (a.put o.dst undef) w) : wpAnyY n P md ops Q S y (fuel + 1) listed a w := by
  refine ⟨fun q => (by rw [hr] at q; cases q), fun j hj => ?_⟩
  rw [hr, List.mem_singleton] at hj
  subst hj
  simp only [if_true]
  unfold wpOpIn
  simp only [ho]
  rw [if_neg (by rw [hw]; simp)]
  exact ⟨fun f _ => trivial, h⟩
end
end Go.Proofs.Ytkadlopcomjonaa.pg
/- A program that came in, opened, with its sizes: none of its lists takes more bytes than a machine has. -/
namespace Go.Proofs.Ytkadlopcomjonaa.pg
open Go.ChangeShapes Go.WideShapes Go.ChangeAt Go.RowKit
set_option linter.unusedVariables false
set_option maxRecDepth 100000
def MSel.sz (s : MSel) : Prop := s.cases.length * 32 ≤ reachBytes
def MFn.sz (f : MFn) : Prop := f.code.length * 40 ≤ reachBytes ∧ f.sels.length * 32 ≤ reachBytes ∧ ∀ s ∈ f.sels, s.sz
def MPr.sz (p : MPr) : Prop := p.vars.length * 16 ≤ reachBytes ∧ p.chans.length * 8 ≤ reachBytes ∧ p.fns.length * 64 ≤ reachBytes ∧ ∀ f ∈ p.fns, f.sz
section
variable {H : Type} {enc : TypeId × Value → H} {P : Program} {w : World} {base : Nat} {spare : Nat → Bool} {held : Bool}
def Sz (P : Program) (t : TypeId) (d : DataW H) : Prop := ∀ n ∈ d.weights P t, n ≤ reachBytes
theorem mem_weightsAll {e : TypeId} {l : List (DataW H)} {d : DataW H} (hd : d ∈ l) (n : Nat) (hn : n ∈ d.weights P e) : n ∈ DataW.weightsAll P e l := by
  induction l with
  | nil => simp at hd
  | cons x t ih =>
    simp only [DataW.weightsAll, List.mem_append]
    rcases List.mem_cons.mp hd with rfl | hd
    · exact .inl hn
    · exact .inr (ih hd)
/-- A list, opened: its elements' cells are as the elements' own readings tell. -/
theorem rows_sz {α : Type} (dflt : α) {t e : TypeId} {k fuel : Nat} {a : Option Addr} {len cap : Nat} {x : DataW H × List MemPlace} (C : α → List Value) (Q : α → Prop) (ht : P.underlying t = some (.slice e)) (hk : P.cellsOf e = k) (hk0 : 0 < k)
    (hel : ∀ n cs y, cs.length = k → DataW.trod enc P w base spare held n e cs = some y → Sz P e y.1 → ∃ x, cs = C x ∧ Q x)
    (h : DataW.trod enc P w base spare held fuel t [.slice a len cap] = some x) (hs : Sz P t x.1) : ∃ l : List α, l.length = len ∧ Rows w k a cap (l.map C) ∧ (∀ x ∈ l, Q x) ∧ len * P.bytesOf e ≤ reachBytes := by
  rcases Go.Deep.open_slice ht h with ⟨hcs, _⟩ | ⟨ad, len', cap', m, n, D, Pl, hcs, _, hl, hm, hmm, hxd, hx⟩
  · simp only [List.cons.injEq, Value.slice.injEq, and_true] at hcs
    obtain ⟨rfl, rfl, rfl⟩ := hcs
    exact ⟨[], rfl, ⟨by simp, by simp, by simp, .inl rfl⟩, by simp, by simp⟩
  · simp only [List.cons.injEq, Value.slice.injEq, and_true] at hcs
    obtain ⟨rfl, rfl, rfl⟩ := hcs
    unfold maxLen at hm
    have hlm : len ≤ m := by rw [hmm]; split <;> omega
    subst hxd
    have hs1 : (((List.range len).map D).length + ((List.range (m - len)).map fun j => D (len + j)).length) * P.bytesOf e ≤ reachBytes := hs _ (by
      simp only [DataW.weights, ht]; exact List.mem_cons_self)
    have hs2 : ∀ i, i < len → Sz P e (D i) := fun i hi n hn => hs n (by
      simp only [DataW.weights, ht]
      refine List.mem_cons_of_mem _ (List.mem_append_left _ (mem_weightsAll (d := D i) ?_ n hn))
      simp only [List.mem_map, List.mem_range]
      exact ⟨i, hi, rfl⟩)
    have each : ∀ i, i < len → ∃ y : α, Q y ∧ (C y).length = k ∧ ∀ j u, (C y)[j]? = some u → w.cell? (ad.add (i * k + j)) = some u := fun i hi => by
      obtain ⟨cs', h1, h2⟩ := hx i (by omega)
      rw [hk] at h1
      obtain ⟨_, hlen, hcell⟩ := World.cells?_some h1
      obtain ⟨y, rfl, hQ⟩ := hel n cs' _ hlen h2 (hs2 i hi)
      refine ⟨y, hQ, hlen, fun j u hj => ?_⟩
      have hjk : j < k := by have := (List.getElem?_eq_some_iff.mp hj).1; omega
      have := hcell j hjk
      rw [Go.Deep.add_add] at this
      rw [this, hj]
    have inh : Inhabited α := ⟨dflt⟩
    obtain ⟨f, hf⟩ := Go.Deep.choose_lt each
    refine ⟨(List.range len).map f, by simp, ⟨by simpa using hl, by omega, by simp, ?_⟩, fun y hy => ?_, ?_⟩
    · by_cases h0 : len = 0
      · subst h0; exact .inl rfl
      right
      obtain ⟨b, off, spot⟩ := ad
      obtain ⟨_, hl0, hc0⟩ := hf 0 (by omega)
      have hcell0 : w.cell? ((⟨b, off, spot⟩ : Addr).add (0 * k + 0)) = some ((C (f 0))[0]'(by omega)) := hc0 0 _ (List.getElem?_eq_getElem (by omega))
      have hs : spot = none := by simpa [Addr.add] using World.cell?_spot hcell0
      subst hs
      rw [add_none] at hcell0
      refine ⟨b, off, rfl, World.block_lt_of_cell? _ _ hcell0, fun i row hi => ?_⟩
      simp only [List.map_map, List.getElem?_map, Option.map_eq_some_iff] at hi
      obtain ⟨i', hi', rfl⟩ := hi
      have hil : i < len ∧ i' = i := by
        have h1 := (List.getElem?_eq_some_iff.mp hi').1
        have h2 := (List.getElem?_eq_some_iff.mp hi').2
        simp at h1 h2
        exact ⟨h1, h2.symm⟩
      obtain ⟨hil, rfl⟩ := hil
      obtain ⟨_, h1, h2⟩ := hf i' hil
      exact ⟨h1, fun j u hj => by rw [← add_none]; exact h2 j u hj⟩
    · simp only [List.mem_map, List.mem_range] at hy
      obtain ⟨i, hi, rfl⟩ := hy
      exact (hf i hi).1
    · have := hs1
      simp only [List.length_map, List.length_range] at this
      exact Nat.le_trans (Nat.mul_le_mul_right _ (Nat.le_add_right _ _)) this
/-- A field of one cell. -/
theorem field_sz {t : TypeId} {fs : Array Field} {fuel : Nat} {cs : List Value} {x : DataW H × List MemPlace} (ht : P.underlying t = some (.struct fs)) (h : DataW.trod enc P w base spare held fuel t cs = some x)
    (i : Nat) (f : Field) (hi : fs[i]? = some f) (ho : f.offset = i) (hc : P.cellsOf f.type = 1) (hl : i < cs.length) (hs : Sz P t x.1) : ∃ v y n, cs[i]? = some v ∧ DataW.trod enc P w base spare held n f.type [v] = some y ∧ Sz P f.type y.1 := by
  obtain ⟨xs, n, _, hxd, _, hlen, hf⟩ := DataW.trod_struct ht h
  have h1 := hf i f hi
  have hlt : i < xs.length := by rw [hlen]; exact (Array.getElem?_eq_some_iff.mp hi).1
  rw [ho, hc, List.getElem?_eq_getElem hlt] at h1
  refine ⟨cs[i], xs[i], n, List.getElem?_eq_getElem hl, ?_, fun m hm => hs m ?_⟩
  rotate_left
  · rw [hxd]
    simp only [DataW.weights, ht]
    exact DataW.weights_mem_each (j := i) (t := f.type) (d := (xs[i]).1) (by simp [hi]) (by simp [hlt]) m hm
  rw [← h1]
  congr 1
  rw [List.drop_eq_getElem_cons hl]
  rfl
end
section
variable {H : Type} {enc : TypeId × Value → H} {w : World} {base : Nat} {spare : Nat → Bool} {held : Bool}
end
end Go.Proofs.Ytkadlopcomjonaa.pg
