/- One element appended to a list of the call's own. -/
import Derived.Test.YtgmpdnmheiblpaaDoorM8
import Derived.Test.YtgmpdnmheiblpaaDoorM4
import Derived.RangeFuncNested
import Derived.RangeFuncBound
import Derived.RangeFuncCalls
import Derived.RangeFuncLeaves
import Derived.OwnWalkIn
import Derived.TacticsInMore
import Derived.LoopNIn
import Derived.LoopIn
import Derived.OrdersIn
import Derived.Test.YtgmpdnmheiblpaaDoorM3
import Derived.Great.BuildSlice
namespace Go.Proofs.YtgmpdnmheiblpaaDoor.pg
open Go.ChangeShapes Go.WideShapes Go.ChangeAt Go.RowKit
set_option linter.unusedVariables false
set_option linter.unusedSimpArgs false
set_option maxRecDepth 100000
theorem info_q {P : Program} {e : TypeId} {z : Value} {k b : Nat} (h : (P.info? e).map (fun i => (i.zero, i.size, i.bytes)) = some (some z, k, b)) : ∃ i, P.info? e = some i ∧ i.zero = some z ∧ i.size = k ∧ i.bytes = b := by
  obtain ⟨i, hi, h2⟩ := Option.map_eq_some_iff.mp h
  simp only [Prod.mk.injEq] at h2
  exact ⟨i, hi, h2.1, h2.2.1, h2.2.2⟩
theorem own_nil_q (w : World) (lo e k : Nat) : OwnL w lo e k none 0 [] := ⟨by simp, .inl ⟨rfl, rfl⟩⟩
theorem heap_new_q (w : World) (o : Obj) : (w.alloc o).heap[w.heap.size]? = some o := (MapKept.heap_alloc w o).1
theorem rows_one_q {w : World} {b k : Nat} {cs : List Value} {t : TypeId} (h : w.heap[b]? = some (.cells cs.toArray t (0, 0))) (hk : cs.length = k) : Rows w k (some ⟨b, 0, none⟩) 1 [cs] := by
  refine ⟨by simp, by omega, by simp, .inr ⟨b, 0, rfl, (Array.getElem?_eq_some_iff.mp h).1, fun i row hi => ?_⟩⟩
  cases i with
  | zero =>
    simp at hi
    subst hi
    refine ⟨hk, fun j u hj => ?_⟩
    have := whole_cell h j u (by simpa using hj)
    simpa using this
  | succ i => simp at hi
theorem below_min {B : Nat} {a w w' : World} (h : Below B a w) (hB : B ≤ w.heap.size) (k : Below (min B w.heap.size) w w') : Below B a w' := h.trans (k.mono (by omega))
theorem own_mono_q {w : World} {lo lo2 e k : Nat} {a : Option Addr} {cap : Nat} {L : List (List Value)} (h : OwnL w lo e k a cap L) (hl : lo2 ≤ lo) : OwnL w lo2 e k a cap L := by
  refine ⟨h.1, h.2.imp_right fun ⟨g, cap', cur, h1, hb, hr⟩ => ⟨g, cap', cur, h1, by omega, hr⟩⟩
/-- What an append of one element leaves: the list with it, all else as it was. -/
structure Grown (wr : World) (base e k : Nat) (va : Option Addr) (L : List (List Value)) (cs : List Value) (va' : Option Addr) (vc' : Nat) (w' : World) : Prop where
  ow : OwnL w' base e k va' vc' (L ++ [cs])
  be : Below (min base wr.heap.size) wr w'
  kp : ∀ b, b < wr.heap.size → b ∉ blk va → w'.heap[b]? = wr.heap[b]?
  bk : ∀ b ∈ blk va', b ∈ blk va ∨ wr.heap.size ≤ b
theorem wpList_app1 {P : Program} {wr : World} {ops : Array Oper} {rest : List Oper} {o : Oper} {a : Act} {Q : Exit → Act → World → Prop} (hgd : o.guard = none) (s x : Operand) (t : TypeId)
    (ho : o.op = .call { callee := .builtin .append, args := #[s, x], argTypes := #[t, t] })
    (base : Nat) (e : TypeId) (i : TypeInfo) (z : Value) (k bytes : Nat) (ht : P.underlying t = some (.slice e)) (hi : P.info? e = some i) (hz : i.zero = some z)
    (hsize : i.size = k) (hby : i.bytes = bytes) (hzs : z.cells.size = k) (hsz : 0 < k)
    (va : Option Addr) (vc : Nat) (L : List (List Value)) (hs : a.eval s = .slice va L.length vc) (hown : OwnL wr base e k va vc L) (cs : List Value)
    (hx : a.eval x = .slice (some ⟨wr.heap.size, 0, none⟩) 1 1) (hk : cs.length = k) (h1 : ∀ u ∈ cs, u.oneCell' = true)
    (h63 : L.length + 1 ≤ maxLen) (hbytes : (L.length + 1) * bytes ≤ 140737488355328) (hbase : base ≤ wr.heap.size)
    (h : ∀ va' vc' w', Grown wr base e k va L cs va' vc' w' → wpList P ops Q rest (a.put o.dst (.slice va' (L.length + 1) vc')) w') :
    wpList P ops Q (o :: rest) a (wr.alloc (.cells cs.toArray e)) := by
  have hbx := boxed wr (.cells cs.toArray e)
  have hB : base ≤ (wr.alloc (.cells cs.toArray e)).heap.size := by have := hbx.size; omega
  refine wpList_app hgd s x t ho base e i z k bytes ht hi hz hsize hby hzs hsz va vc L hs (own_keep hown fun b hb => hbx.block b (blk_lt hown b hb).2) (some ⟨wr.heap.size, 0, none⟩) 1 [cs] hx (rows_one_q (heap_new_q wr _) hk) (by intro row hr; rw [List.mem_singleton] at hr; rw [hr]; exact hk) (by intro row hr; rw [List.mem_singleton] at hr; rw [hr]; exact h1) h63 hbytes hB ?_
  intro va' vc' w' ho2 hk2 hB2 hbl
  have := h va' vc' w' ⟨ho2, ?_, ?_, ?_⟩
  · rwa [List.length_append, List.length_singleton]
  · exact (hbx.mono (by omega)).trans (hB2.mono (by have := hbx.size; omega))
  · intro b hb hm
    rw [hk2 b (by have := hbx.size; omega) hm]
    exact hbx.block b hb
  · intro b hb
    rcases hbl with q | q
    · rw [q] at hb; exact .inl hb
    · rw [q, List.mem_singleton] at hb; right; rw [hb]; exact hbx.size
end Go.Proofs.YtgmpdnmheiblpaaDoor.pg
/- A region that draws its order, in the body of a loop over an iterator: what is shown of it outside holds there. -/
namespace Go.Proofs.YtgmpdnmheiblpaaDoor.pg
open Go.ChangeShapes Go.WideShapes Go.ChangeAt Go.RowKit
set_option linter.unusedVariables false
set_option linter.unusedSimpArgs false
section
variable {P : Program} {ops : Array Oper} {Q : Exit → Act → World → Prop} {l n : Nat}
/-- No operation that defers a call. -/
def noDefer (ops : Array Oper) : Bool := ops.all fun o => match o.op with
  | .defer _ => false
  | _ => true
theorem noDefer_at {i : Nat} {o : Oper} (h : noDefer ops = true) (ho : ops[i]? = some o) (c : Call) : o.op ≠ .defer c := by
  intro e
  unfold noDefer at h
  rw [Array.all_eq_true] at h
  obtain ⟨hi, hx⟩ := Array.getElem?_eq_some_iff.mp ho
  have := h i hi
  rw [hx, e] at this
  simp at this
theorem wide_room (k : Nat) : (Fence.wide.inRound l).room k := fun d h => by simp [Fence.wide, Fence.inRound] at h
theorem wide_depth : (Fence.wide.inRound l).depth.isSome = true → 1 ≤ n := fun h => by simp [Fence.wide, Fence.inRound] at h
theorem op_round {o : Oper} {a : Act} {w : World} {K : Act → World → Prop} (hd : ∀ c, o.op ≠ .defer c) (h : o.wp P a w K Q) : o.wpIn (Fence.wide.inRound l) n P a w K Q := by
  unfold Oper.wp at h
  unfold Oper.wpIn
  refine ⟨fun f _ => trivial, ?_⟩
  rw [Fence.inRound_round, Oper.semAt_some l _ _ hd]
  generalize (execOp a.eval o).run P w = r at *
  cases r with
  | ok x w' =>
    cases x <;> simp only [Oper.upon, Oper.uponIn] at h ⊢ <;> first
      | exact h
      | exact ⟨wide_depth, CallsIn.inRound l (callsIn_wide.2 h)⟩
      | exact ⟨wide_depth, fun c cs _ => let ⟨v, w', r, s⟩ := h c cs; ⟨v, w', r, stepsIn_wide.2 s⟩⟩
  | halt x w' => cases x <;> simp only [Oper.upon, Oper.uponIn] at h ⊢ <;> exact h
theorem any_round {md : Region.Mode} (hd : noDefer ops = true) (hno : ¬ LetsOut Q) : ∀ (fuel : Nat) (listed : Array Bool) (a : Act) (w : World), wpAny P md ops Q fuel listed a w → wpAnyIn (Fence.wide.inRound l) n P md ops Q fuel listed a w
  | 0, _, _, _, h => h
  | fuel + 1, listed, a, w, h => ⟨h.1, fun i hi => by
    have h2 := h.2 i hi
    unfold wpOp at h2
    unfold wpOpIn
    cases ho : ops[i]? with
    | none =>
      simp only [ho] at h2
      exact any_round hd hno fuel _ a w h2
    | some o =>
      simp only [ho] at h2
      by_cases hw : Region.wanted o (yielded ops a.tmps) = true
      · simp only [hw, if_true] at h2 ⊢
        rcases h2 with h2 | h2
        · exact op_round (noDefer_at hd ho) (Oper.wp_mono (fun a' w' h' => any_round hd hno fuel _ a' w' h') h2)
        · exact (hno h2.2).elim
      · simp only [hw] at h2 ⊢
        exact ⟨fun f _ => trivial, any_round hd hno fuel _ _ w h2⟩⟩
theorem wpR_any {id : Nat} {a : Act} {w : World} (hm : P.follows .mixedOrders = true) (hd : noDefer ops = true) (hno : ¬ LetsOut Q)
    (h : wpAny P .any ops Q ops.size (Array.replicate ops.size false) a { w with drawn := w.drawn + 1 }) : (Code.region id ops true).wpIn (Fence.wide.inRound l) n P Q a w :=
  wpIn_region_any hm (any_round hd hno _ _ _ _ h)
/-- Walked once in the order of its text, in every world of a class. -/
theorem wpR_cls (S : World → Prop) {id : Nat} {a : Act} {w : World} {L : List Oper} (hm : P.follows .mixedOrders = true) (hB : Region.lexB .any L.toArray = true) (hd : noDefer L.toArray = true) (hno : ¬ LetsOut Q) (hS : S w.drew)
    (h : wpQuiet P L.toArray (fun w' => ∃ s : Cls S, w' = s.w) (fun a' => ∀ w', (∃ s : Cls S, w' = s.w) → Q .normal a' w') L a) : (Code.region id L.toArray true).wpIn (Fence.wide.inRound l) n P Q a w := by
  simp only [Region.lexB, Bool.and_eq_true] at hB
  refine wpR_any hm hd hno (wpAny_of_quiet (C := fun w' => ∃ s : Cls S, w' = s.w) (Q := fun a' => ∀ w', (∃ s : Cls S, w' = s.w) → Q .normal a' w') (fun _ w' hw' h => h w' hw') _ _ _ _ ⟨⟨_, hS⟩, rfl⟩ ?_)
  have := wpAnyQ_lex (C := fun w' => ∃ s : Cls S, w' = s.w) (md := .any) hB.1 L 0 (Array.replicate L.toArray.size false) a (by simp) (by simpa using hB.2) h
  simpa using this
/-- Walked by hand, a condition on the world held. -/
theorem wpR_held (S : World → Prop) {id : Nat} {a : Act} {w : World} (hm : P.follows .mixedOrders = true) (hd : noDefer ops = true) (hno : ¬ LetsOut Q)
    (h : wpAnyH P .any ops Q S ops.size (Array.replicate ops.size false) a w.drew) : (Code.region id ops true).wpIn (Fence.wide.inRound l) n P Q a w :=
  wpR_any hm hd hno (wpAny_of_held _ _ _ _ h)
end
end Go.Proofs.YtgmpdnmheiblpaaDoor.pg
/- More moves in a region that draws its order: loads of one cell, and operations that turn the world, by the laws of lists of operations. -/
namespace Go.Proofs.YtgmpdnmheiblpaaDoor.pg
open Go.ChangeShapes Go.WideShapes Go.ChangeAt Go.RowKit
set_option linter.unusedVariables false
set_option linter.unusedSimpArgs false
theorem run_load1 {P : Program} {o : Oper} {ρ : Operand → Value} (ty : TypeId) (x : Operand) (ho : o.op = .load ty x) (ad : Addr) (hx : ρ x = .pointer (some ad)) (d : TypeDesc) (hu : P.underlying ty = some d) (hd : d.isRow = false) {w : World} {v : Value} (hc : w.cell? ad = some v) :
    (execOp ρ o).run P w = .ok (.value v) w := by
  unfold execOp
  have hagg : (isAgg ty).run P w = .ok false w := by
    unfold isAgg
    rw [Sem.run_bind, run_underlying hu w]
    cases d <;> simp_all [TypeDesc.isRow]
  simp [ho, hx, Instr.loadAt, Instr.sureAddr, loadVar, hagg, go_sem, hc]
theorem wpList_load1 {P : Program} {ops : Array Oper} {rest : List Oper} {o : Oper} {a : Act} {w : World} {Q : Exit → Act → World → Prop} (hgd : o.guard = none) (ty : TypeId) (x : Operand) (ho : o.op = .load ty x) (ad : Addr) (hx : a.eval x = .pointer (some ad)) (d : TypeDesc) (hu : P.underlying ty = some d) (hd : d.isRow = false) (v : Value) (hc : w.cell? ad = some v)
    (h : wpList P ops Q rest (a.put o.dst v) w) : wpList P ops Q (o :: rest) a w := wpList_plain hgd fun K hK => by
  unfold Oper.wp
  rw [run_load1 ty x ho ad hx d hu hd hc]
  exact hK _ _ h
/-- A slice stored into one cell. -/
theorem run_store1 {P : Program} {o : Oper} {ρ : Operand → Value} (ty : TypeId) (x y : Operand) (ho : o.op = .store ty x y) (ad : Addr) (hx : ρ x = .pointer (some ad)) (g : Option Addr) (n cap : Nat) (hy : ρ y = .slice g n cap) (hi : (P.info? ty).map (·.size) = some 1) {w : World} {v : Value} (hc : w.cell? ad = some v) (hf : w.frozen? ad = false) :
    (execOp ρ o).run P w = .ok .skip (w.setCell ad (.slice g n cap)) := by
  cases hq : P.info? ty with
  | none => simp [hq] at hi
  | some i =>
    have hs : i.size = 1 := by simpa [hq] using hi
    unfold execOp
    simp [ho, hx, hy, Instr.storeAt, Instr.sureAddr, storeVar, sizeOf, typeInfo, hq, hs, Value.cells, go_sem, hc, hf]
theorem wpList_store1 {P : Program} {ops : Array Oper} {rest : List Oper} {o : Oper} {a : Act} {w : World} {Q : Exit → Act → World → Prop} (hgd : o.guard = none) (ty : TypeId) (x y : Operand) (ho : o.op = .store ty x y) (ad : Addr) (hx : a.eval x = .pointer (some ad)) (g : Option Addr) (n cap : Nat) (hy : a.eval y = .slice g n cap) (hi : (P.info? ty).map (·.size) = some 1) (v : Value) (hc : w.cell? ad = some v) (hf : w.frozen? ad = false)
    (h : wpList P ops Q rest (a.put o.dst undef) (w.setCell ad (.slice g n cap))) : wpList P ops Q (o :: rest) a w := wpList_plain hgd fun K hK => by
  unfold Oper.wp
  rw [run_store1 ty x y ho ad hx g n cap hy hi hc hf]
  exact hK _ _ h
/-- Normal, and so on; nothing else. -/
def okQ (K : Act → World → Prop) : Exit → Act → World → Prop
  | .normal, a, w => K a w
  | _, _, _ => False
theorem okQ_out (K : Act → World → Prop) : ¬ LetsOut (okQ K) := fun ⟨_, _, h⟩ => h
theorem op_two {P : Program} {o : Oper} {a : Act} {w : World} {K K' : Act → World → Prop} {Q : Exit → Act → World → Prop} (h : ∀ a w, K a w → K' a w) (hh : o.wp P a w K (okQ K)) : o.wp P a w K' Q := by
  unfold Oper.wp at *
  generalize (execOp a.eval o).run P w = r at *
  cases r with
  | ok n w' =>
    cases n <;> simp only [Oper.upon] at hh ⊢ <;>
      first
        | exact h _ _ hh
        | exact Calls.mono hh (fun e w'' he => by cases e <;> first | exact h _ _ he | exact (okQ_out _ he).elim | exact he.elim)
        | exact Rows.mono hh (fun _ _ he => h _ _ he)
  | halt x w' => cases x <;> simp only [Oper.upon] at hh ⊢ <;> exact hh.elim
section
variable {P : Program} {ops : Array Oper} {Q : Exit → Act → World → Prop} {S : World → Prop} {fuel : Nat} {listed : Array Bool} {a : Act} {w : World}
theorem reg_load1 {i : Nat} {o : Oper} (ho : ops[i]? = some o) (hs : Region.noSelect ops = true) (hf : Region.free .any ops listed i = true) (hr : (Region.ready .any ops listed).contains i = true)
    (hQ : ∀ c v a w, Q (.panic c) (a.put o.dst v) w → Q (.panic c) a w) (hw : Region.wanted o (yielded ops a.tmps) = true) (ty : TypeId) (x : Operand) (hl : o.op = .load ty x) (ad : Addr) (hx : a.eval x = .pointer (some ad)) (d : TypeDesc) (hu : P.underlying ty = some d) (hd : d.isRow = false) (v : Value)
    (hS : ∀ w, S w → w.cell? ad = some v) (hSw : S w)
    (h : wpAnyH P .any ops Q S fuel (listed.setIfInBounds i true) (a.put o.dst v) w) : wpAnyH P .any ops Q S (fuel + 1) listed a w :=
  wpAnyH_take ho hs hf hr (fun c a w => hQ c _ a w) (.inl ⟨hw, fun w h => run_load1 ty x hl ad hx d hu hd (hS w h)⟩) hSw h
/-- An operation among those that may come up, by a law of lists. -/
theorem arm_list {i : Nat} {o : Oper} (hw : Region.wanted o (yielded ops a.tmps) = true) (h : wpList P ops (okQ fun a' w' => S w' ∧ (S w' → wpAnyH P .any ops Q S fuel (listed.setIfInBounds i true) a' w')) [o] a w) :
    ∀ K' : Act → World → Prop, Shut (∀ a w, S w → (S w → wpAnyH P .any ops Q S fuel (listed.setIfInBounds i true) a w) → K' a w) → if Region.wanted o (yielded ops a.tmps) = true then Oper.wp P o a w K' Q else K' (a.put o.dst undef) w := fun K hK => by
  rw [if_pos hw]
  unfold wpList at h
  rw [if_pos hw] at h
  rcases h with h | h
  · exact op_two (fun a' w' q => hK.out a' w' q.1 q.2) h
  · exact (okQ_out _ h.2).elim
/-- The only one that may come up. -/
theorem reg_one {i : Nat} {o : Oper} (hr : Region.ready .any ops listed = [i]) (ho : ops[i]? = some o) (hw : Region.wanted o (yielded ops a.tmps) = true) (h : wpList P ops (okQ fun a' w' => S w' ∧ (S w' → wpAnyH P .any ops Q S fuel (listed.setIfInBounds i true) a' w')) [o] a w) :
    wpAnyH P .any ops Q S (fuel + 1) listed a w := wpAnyH_ready hr (by simp) (AllReadyH.cons ho (arm_list hw h) AllReadyH.nil)
theorem reg_two {i j : Nat} {o p : Oper} (hr : Region.ready .any ops listed = [i, j]) (ho : ops[i]? = some o) (hp : ops[j]? = some p) (hw : Region.wanted o (yielded ops a.tmps) = true) (hw2 : Region.wanted p (yielded ops a.tmps) = true)
    (h : wpList P ops (okQ fun a' w' => S w' ∧ (S w' → wpAnyH P .any ops Q S fuel (listed.setIfInBounds i true) a' w')) [o] a w) (h2 : wpList P ops (okQ fun a' w' => S w' ∧ (S w' → wpAnyH P .any ops Q S fuel (listed.setIfInBounds j true) a' w')) [p] a w) :
    wpAnyH P .any ops Q S (fuel + 1) listed a w := wpAnyH_ready hr (by simp) (AllReadyH.cons ho (arm_list hw h) (AllReadyH.cons hp (arm_list hw2 h2) AllReadyH.nil))
/-- In a round, an operation of a region that keeps its order, by a law of lists. -/
theorem inR_list {l n : Nat} {rest : List Oper} {o : Oper} (hgd : o.guard = none) (hd : ∀ c, o.op ≠ .defer c) (h : wpList P ops (okQ fun a' w' => wpListIn (Fence.wide.inRound l) n P ops Q rest a' w') [o] a w) : wpListIn (Fence.wide.inRound l) n P ops Q (o :: rest) a w :=
  wpListIn_plain hgd fun K hK => op_round hd (by
    unfold wpList at h
    rw [if_pos (by simp [Region.wanted, hgd])] at h
    rcases h with h | h
    · exact op_two (fun a' w' q => hK a' w' q) h
    · exact (okQ_out _ h.2).elim)
end
end Go.Proofs.YtgmpdnmheiblpaaDoor.pg
