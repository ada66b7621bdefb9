/- A region that draws its order, in the body of a loop over an iterator: what is shown of it outside holds there. -/
import Derived.Test.YtjcmhaaohdmjpaaDoorM5
import Derived.RangeFuncNested
import Derived.RangeFuncBound
import Derived.RangeFuncCalls
import Derived.RangeFuncLeaves
import Derived.OwnWalkIn
import Derived.TacticsInMore
import Derived.LoopNIn
import Derived.LoopIn
import Derived.OrdersIn
import Derived.Great.BuildSlice
import Derived.Test.YtjcmhaaohdmjpaaDoorM18
namespace Go.Proofs.YtjcmhaaohdmjpaaDoor.pg
open Go.ChangeShapes Go.WideShapes Go.ChangeAt Go.RowKit
set_option linter.unusedVariables false
set_option linter.unusedSimpArgs false
section
variable {P : Program} {ops : Array Oper} {Q : Exit → Act → World → Prop} {l n : Nat}
/-- No operation that defers a call. -/
def noDefer (ops : Array Oper) : Bool := ops.all fun o => match o.op with
  | .defer _ => false
  | _ => true
theorem noDefer_at {i : Nat} {o : Oper} (h : noDefer ops = true) (ho : ops[i]? = some o) (c : Call) : o.op ≠ .defer c := by
  intro e
  unfold noDefer at h
  rw [Array.all_eq_true] at h
  obtain ⟨hi, hx⟩ := Array.getElem?_eq_some_iff.mp ho
  have := h i hi
  rw [hx, e] at this
  simp at this
theorem wide_room (k : Nat) : (Fence.wide.inRound l).room k := fun d h => by simp [Fence.wide, Fence.inRound] at h
theorem wide_depth : (Fence.wide.inRound l).depth.isSome = true → 1 ≤ n := fun h => by simp [Fence.wide, Fence.inRound] at h
theorem op_round {o : Oper} {a : Act} {w : World} {K : Act → World → Prop} (hd : ∀ c, o.op ≠ .defer c) (h : o.wp P a w K Q) : o.wpIn (Fence.wide.inRound l) n P a w K Q := by
  unfold Oper.wp at h
  unfold Oper.wpIn
  refine ⟨fun f _ => trivial, ?_⟩
  rw [Fence.inRound_round, Oper.semAt_some l _ _ hd]
  generalize (execOp a.eval o).run P w = r at *
  cases r with
  | ok x w' =>
    cases x <;> simp only [Oper.upon, Oper.uponIn] at h ⊢ <;> first
      | exact h
      | exact ⟨wide_depth, CallsIn.inRound l (callsIn_wide.2 h)⟩
      | exact ⟨wide_depth, fun c cs _ => let ⟨v, w', r, s⟩ := h c cs; ⟨v, w', r, stepsIn_wide.2 s⟩⟩
  | halt x w' => cases x <;> simp only [Oper.upon, Oper.uponIn] at h ⊢ <;> exact h
theorem any_round {md : Region.Mode} (hd : noDefer ops = true) (hno : ¬ LetsOut Q) : ∀ (fuel : Nat) (listed : Array Bool) (a : Act) (w : World), wpAny P md ops Q fuel listed a w → wpAnyIn (Fence.wide.inRound l) n P md ops Q fuel listed a w
  | 0, _, _, _, h => h
  | fuel + 1, listed, a, w, h => ⟨h.1, fun i hi => by
    have h2 := h.2 i hi
    unfold wpOp at h2
    unfold wpOpIn
    cases ho : ops[i]? with
    | none =>
      simp only [ho] at h2
      exact any_round hd hno fuel _ a w h2
    | some o =>
      simp only [ho] at h2
      by_cases hw : Region.wanted o (yielded ops a.tmps) = true
      · simp only [hw, if_true] at h2 ⊢
        rcases h2 with h2 | h2
        · exact op_round (noDefer_at hd ho) (Oper.wp_mono (fun a' w' h' => any_round hd hno fuel _ a' w' h') h2)
        · exact (hno h2.2).elim
      · simp only [hw] at h2 ⊢
        exact ⟨fun f _ => trivial, any_round hd hno fuel _ _ w h2⟩⟩
theorem wpR_any {id : Nat} {a : Act} {w : World} (hm : P.follows .mixedOrders = true) (hd : noDefer ops = true) (hno : ¬ LetsOut Q)
    (h : wpAny P .any ops Q ops.size (Array.replicate ops.size false) a { w with drawn := w.drawn + 1 }) : (Code.region id ops true).wpIn (Fence.wide.inRound l) n P Q a w :=
  wpIn_region_any hm (any_round hd hno _ _ _ _ h)
/-- Walked once in the order of its text, in every world of a class. -/
theorem wpR_cls (S : World → Prop) {id : Nat} {a : Act} {w : World} {L : List Oper} (hm : P.follows .mixedOrders = true) (hB : Region.lexB .any L.toArray = true) (hd : noDefer L.toArray = true) (hno : ¬ LetsOut Q) (hS : S w.drew)
    (h : wpQuiet P L.toArray (fun w' => ∃ s : Cls S, w' = s.w) (fun a' => ∀ w', (∃ s : Cls S, w' = s.w) → Q .normal a' w') L a) : (Code.region id L.toArray true).wpIn (Fence.wide.inRound l) n P Q a w := by
  simp only [Region.lexB, Bool.and_eq_true] at hB
  refine wpR_any hm hd hno (wpAny_of_quiet (C := fun w' => ∃ s : Cls S, w' = s.w) (Q := fun a' => ∀ w', (∃ s : Cls S, w' = s.w) → Q .normal a' w') (fun _ w' hw' h => h w' hw') _ _ _ _ ⟨⟨_, hS⟩, rfl⟩ ?_)
  have := wpAnyQ_lex (C := fun w' => ∃ s : Cls S, w' = s.w) (md := .any) hB.1 L 0 (Array.replicate L.toArray.size false) a (by simp) (by simpa using hB.2) h
  simpa using this
/-- Walked by hand, a condition on the world held. -/
theorem wpR_held (S : World → Prop) {id : Nat} {a : Act} {w : World} (hm : P.follows .mixedOrders = true) (hd : noDefer ops = true) (hno : ¬ LetsOut Q)
    (h : wpAnyH P .any ops Q S ops.size (Array.replicate ops.size false) a w.drew) : (Code.region id ops true).wpIn (Fence.wide.inRound l) n P Q a w :=
  wpR_any hm hd hno (wpAny_of_held _ _ _ _ h)
end
end Go.Proofs.YtjcmhaaohdmjpaaDoor.pg
/- More moves in a region that draws its order: loads of one cell, and operations that turn the world, by the laws of lists of operations. -/
namespace Go.Proofs.YtjcmhaaohdmjpaaDoor.pg
open Go.ChangeShapes Go.WideShapes Go.ChangeAt Go.RowKit
set_option linter.unusedVariables false
set_option linter.unusedSimpArgs false
theorem run_load1 {P : Program} {o : Oper} {ρ : Operand → Value} (ty : TypeId) (x : Operand) (ho : o.op = .load ty x) (ad : Addr) (hx : ρ x = .pointer (some ad)) (d : TypeDesc) (hu : P.underlying ty = some d) (hd : d.isRow = false) {w : World} {v : Value} (hc : w.cell? ad = some v) :
    (execOp ρ o).run P w = .ok (.value v) w := by
  unfold execOp
  have hagg : (isAgg ty).run P w = .ok false w := by
    unfold isAgg
    rw [Sem.run_bind, run_underlying hu w]
    cases d <;> simp_all [TypeDesc.isRow]
  simp [ho, hx, Instr.loadAt, Instr.sureAddr, loadVar, hagg, go_sem, hc]
theorem wpList_load1 {P : Program} {ops : Array Oper} {rest : List Oper} {o : Oper} {a : Act} {w : World} {Q : Exit → Act → World → Prop} (hgd : o.guard = none) (ty : TypeId) (x : Operand) (ho : o.op = .load ty x) (ad : Addr) (hx : a.eval x = .pointer (some ad)) (d : TypeDesc) (hu : P.underlying ty = some d) (hd : d.isRow = false) (v : Value) (hc : w.cell? ad = some v)
    (h : wpList P ops Q rest (a.put o.dst v) w) : wpList P ops Q (o :: rest) a w := wpList_plain hgd fun K hK => by
  unfold Oper.wp
  rw [run_load1 ty x ho ad hx d hu hd hc]
  exact hK _ _ h
/-- A slice stored into one cell. -/
theorem run_store1 {P : Program} {o : Oper} {ρ : Operand → Value} (ty : TypeId) (x y : Operand) (ho : o.op = .store ty x y) (ad : Addr) (hx : ρ x = .pointer (some ad)) (g : Option Addr) (n cap : Nat) (hy : ρ y = .slice g n cap) (hi : (P.info? ty).map (·.size) = some 1) {w : World} {v : Value} (hc : w.cell? ad = some v) (hf : w.frozen? ad = false) :
    (execOp ρ o).run P w = .ok .skip (w.setCell ad (.slice g n cap)) := by
  cases hq : P.info? ty with
  | none => simp [hq] at hi
  | some i =>
    have hs : i.size = 1 := by simpa [hq] using hi
    unfold execOp
    simp [ho, hx, hy, Instr.storeAt, Instr.sureAddr, storeVar, sizeOf, typeInfo, hq, hs, Value.cells, go_sem, hc, hf]
theorem wpList_store1 {P : Program} {ops : Array Oper} {rest : List Oper} {o : Oper} {a : Act} {w : World} {Q : Exit → Act → World → Prop} (hgd : o.guard = none) (ty : TypeId) (x y : Operand) (ho : o.op = .store ty x y) (ad : Addr) (hx : a.eval x = .pointer (some ad)) (g : Option Addr) (n cap : Nat) (hy : a.eval y = .slice g n cap) (hi : (P.info? ty).map (·.size) = some 1) (v : Value) (hc : w.cell? ad = some v) (hf : w.frozen? ad = false)
    (h : wpList P ops Q rest (a.put o.dst undef) (w.setCell ad (.slice g n cap))) : wpList P ops Q (o :: rest) a w := wpList_plain hgd fun K hK => by
  unfold Oper.wp
  rw [run_store1 ty x y ho ad hx g n cap hy hi hc hf]
  exact hK _ _ h
/-- Normal, and so on; nothing else. -/
def okQ (K : Act → World → Prop) : Exit → Act → World → Prop
  | .normal, a, w => K a w
  | _, _, _ => False
theorem okQ_out (K : Act → World → Prop) : ¬ LetsOut (okQ K) := fun ⟨_, _, h⟩ => h
theorem op_two {P : Program} {o : Oper} {a : Act} {w : World} {K K' : Act → World → Prop} {Q : Exit → Act → World → Prop} (h : ∀ a w, K a w → K' a w) (hh : o.wp P a w K (okQ K)) : o.wp P a w K' Q := by
  unfold Oper.wp at *
  generalize (execOp a.eval o).run P w = r at *
  cases r with
  | ok n w' =>
    cases n <;> simp only [Oper.upon] at hh ⊢ <;>
      first
        | exact h _ _ hh
        | exact Calls.mono hh (fun e w'' he => by cases e <;> first | exact h _ _ he | exact (okQ_out _ he).elim | exact he.elim)
        | exact Rows.mono hh (fun _ _ he => h _ _ he)
  | halt x w' => cases x <;> simp only [Oper.upon] at hh ⊢ <;> exact hh.elim
section
variable {P : Program} {ops : Array Oper} {Q : Exit → Act → World → Prop} {S : World → Prop} {fuel : Nat} {listed : Array Bool} {a : Act} {w : World}
theorem reg_load1 {i : Nat} {o : Oper} (ho : ops[i]? = some o) (hs : Region.noSelect ops = true) (hf : Region.free .any ops listed i = true) (hr : (Region.ready .any ops listed).contains i = true)
    (hQ : ∀ c v a w, Q (.panic c) (a.put o.dst v) w → Q (.panic c) a w) (hw : Region.wanted o (yielded ops a.tmps) = true) (ty : TypeId) (x : Operand) (hl : o.op = .load ty x) (ad : Addr) (hx : a.eval x = .pointer (some ad)) (d : TypeDesc) (hu : P.underlying ty = some d) (hd : d.isRow = false) (v : Value)
    (hS : ∀ w, S w → w.cell? ad = some v) (hSw : S w)
    (h : wpAnyH P .any ops Q S fuel (listed.setIfInBounds i true) (a.put o.dst v) w) : wpAnyH P .any ops Q S (fuel + 1) listed a w :=
  wpAnyH_take ho hs hf hr (fun c a w => hQ c _ a w) (.inl ⟨hw, fun w h => run_load1 ty x hl ad hx d hu hd (hS w h)⟩) hSw h
/-- An operation among those that may come up, by a law of lists. -/
theorem arm_list {i : Nat} {o : Oper} (hw : Region.wanted o (yielded ops a.tmps) = true) (h : wpList P ops (okQ fun a' w' => S w' ∧ (S w' → wpAnyH P .any ops Q S fuel (listed.setIfInBounds i true) a' w')) [o] a w) :
    ∀ K' : Act → World → Prop, Shut (∀ a w, S w → (S w → wpAnyH P .any ops Q S fuel (listed.setIfInBounds i true) a w) → K' a w) → if Region.wanted o (yielded ops a.tmps) = true then Oper.wp P o a w K' Q else K' (a.put o.dst undef) w := fun K hK => by
  rw [if_pos hw]
  unfold wpList at h
  rw [if_pos hw] at h
  rcases h with h | h
  · exact op_two (fun a' w' q => hK.out a' w' q.1 q.2) h
  · exact (okQ_out _ h.2).elim
/-- The only one that may come up. -/
theorem reg_one {i : Nat} {o : Oper} (hr : Region.ready .any ops listed = [i]) (ho : ops[i]? = some o) (hw : Region.wanted o (yielded ops a.tmps) = true) (h : wpList P ops (okQ fun a' w' => S w' ∧ (S w' → wpAnyH P .any ops Q S fuel (listed.setIfInBounds i true) a' w')) [o] a w) :
    wpAnyH P .any ops Q S (fuel + 1) listed a w := wpAnyH_ready hr (by simp) (AllReadyH.cons ho (arm_list hw h) AllReadyH.nil)
theorem reg_two {i j : Nat} {o p : Oper} (hr : Region.ready .any ops listed = [i, j]) (ho : ops[i]? = some o) (hp : ops[j]? = some p) (hw : Region.wanted o (yielded ops a.tmps) = true) (hw2 : Region.wanted p (yielded ops a.tmps) = true)
    (h : wpList P ops (okQ fun a' w' => S w' ∧ (S w' → wpAnyH P .any ops Q S fuel (listed.setIfInBounds i true) a' w')) [o] a w) (h2 : wpList P ops (okQ fun a' w' => S w' ∧ (S w' → wpAnyH P .any ops Q S fuel (listed.setIfInBounds j true) a' w')) [p] a w) :
    wpAnyH P .any ops Q S (fuel + 1) listed a w := wpAnyH_ready hr (by simp) (AllReadyH.cons ho (arm_list hw h) (AllReadyH.cons hp (arm_list hw2 h2) AllReadyH.nil))
/-- In a round, an operation of a region that keeps its order, by a law of lists. -/
theorem inR_list {l n : Nat} {rest : List Oper} {o : Oper} (hgd : o.guard = none) (hd : ∀ c, o.op ≠ .defer c) (h : wpList P ops (okQ fun a' w' => wpListIn (Fence.wide.inRound l) n P ops Q rest a' w') [o] a w) : wpListIn (Fence.wide.inRound l) n P ops Q (o :: rest) a w :=
  wpListIn_plain hgd fun K hK => op_round hd (by
    unfold wpList at h
    rw [if_pos (by simp [Region.wanted, hgd])] at h
    rcases h with h | h
    · exact op_two (fun a' w' q => hK a' w' q) h
    · exact (okQ_out _ h.2).elim)
end
end Go.Proofs.YtjcmhaaohdmjpaaDoor.pg
/- How package state runs a goroutine's local instructions. -/
namespace Go.Proofs.YtjcmhaaohdmjpaaDoor.pg
open Go.ChangeShapes Go.WideShapes Go.ChangeAt Go.RowKit
set_option linter.unusedVariables false
set_option linter.unusedSimpArgs false
set_option maxRecDepth 100000
theorem run_valueS {P : Program} {m : Sem Value} {v : Value} {w w' : World} (h : m.run P w = .ok v w') : (m.bind fun x => pure (.value x) : Sem Next).run P w = .ok (.value v) w' := by
  show (m >>= fun x => pure (Next.value x)).run P w = _
  rw [Sem.run_bind, h]
  rfl
theorem local_all (g : Gr) (i : Ins) {rg : Int} {n : Nat} (hl : g.rg.length = 8) (hi : AllI g.rg) (p0 : 0 ≤ g.pc) (p1 : g.pc < 64) (r8 : rg ≤ 8) (gi : GoodI rg n i) (ho : locP i.op) (w : World) : LocC g i (loc1 word.apF g i) w := by
  obtain ⟨k, a, b, c, nn⟩ := i
  have ga : (1 ≤ k ∧ k ≤ 36) ∨ k = 40 ∨ k = 41 ∨ k = 43 ∨ k = 44 → inR a rg := gi.a
  have gb : (1 ≤ k ∧ k ≤ 36) ∨ k = 41 → inR b rg := gi.b
  have gc : (1 ≤ k ∧ k ≤ 36) → inR c rg := gi.c
  have ho' : (1 ≤ k ∧ k ≤ 36) ∨ (40 ≤ k ∧ k ≤ 45) := ho
  clear gi ho
  by_cases h40 : k = 40
  · subst h40
    have := ga (by omega)
    exact local_const g a b c nn hl p0 p1 (by omega) (by omega) w
  by_cases h41 : k = 41
  · subst h41
    have q1 := ga (by omega)
    have q2 := gb (by omega)
    exact local_move g a b c nn _ hl p0 p1 (by omega) (by omega) (by omega) (by omega) rfl w
  by_cases h42 : k = 42
  · subst h42
    exact local_jump g a b c nn hl p0 p1 w
  by_cases h43 : k = 43
  · subst h43
    have q1 := ga (by omega)
    by_cases z : g.get a = 0
    · have e : loc1 word.apF g ⟨43, a, b, c, nn⟩ = g.adv := by simp [loc1, z]
      rw [e]
      exact local_if0 g a b c nn hl p0 p1 (by omega) (by omega) z w
    · have e : loc1 word.apF g ⟨43, a, b, c, nn⟩ = { g with pc := b } := by simp [loc1, z]
      rw [e]
      exact local_if1 g a b c nn hl p0 p1 (by omega) (by omega) z w
  by_cases h44 : k = 44
  · subst h44
    have q1 := ga (by omega)
    by_cases z : g.get a = 0
    · have e : loc1 word.apF g ⟨44, a, b, c, nn⟩ = g.end 4 1 := by simp [loc1, z]
      rw [e]
      exact local_assert0 g a b c nn hl p0 p1 (by omega) (by omega) z w
    · have e : loc1 word.apF g ⟨44, a, b, c, nn⟩ = g.adv := by simp [loc1, z]
      rw [e]
      exact local_assert1 g a b c nn hl p0 p1 (by omega) (by omega) z w
  by_cases h45 : k = 45
  · subst h45
    exact local_end g a b c nn hl p0 p1 w
  have hk : 1 ≤ k ∧ k ≤ 36 := by omega
  have q1 := ga (.inl hk)
  have q2 := gb (.inl hk)
  have q3 := gc hk
  have cA : ∀ wx, word.papply_ k (g.get b) (g.get c) wx (word.apF k (g.get b) (g.get c)).1 (word.apF k (g.get b) (g.get c)).2 := fun wx => by
    by_cases h15 : k ≤ 15
    · exact (word.apF_one hk.1 h15 (hi.get _) _ _ wx).1
    · exact (word.apF_two (by omega) hk.2 (hi.get _) (hi.get _) wx).1
  have e : loc1 word.apF g ⟨k, a, b, c, nn⟩ = if (word.apF k (g.get b) (g.get c)).2 = 20 then g.end 4 2 else if (word.apF k (g.get b) (g.get c)).2 = 21 then g.end 4 3 else (g.set a (word.apF k (g.get b) (g.get c)).1).adv := by
    simp [loc1, h40, h41, h42, h43, h44, h45]
  rw [e]
  generalize (word.apF k (g.get b) (g.get c)) = r at *
  obtain ⟨x, y⟩ := r
  simp only at cA ⊢
  by_cases e20 : y = 20
  · subst e20
    rw [if_pos rfl]
    exact local_zero g k a b c nn x hl p0 p1 hk.1 hk.2 (by omega) (by omega) (by omega) (by omega) (by omega) (by omega) cA w
  · rw [if_neg e20]
    by_cases e21 : y = 21
    · subst e21
      rw [if_pos rfl]
      exact local_shift g k a b c nn x hl p0 p1 hk.1 hk.2 (by omega) (by omega) (by omega) (by omega) (by omega) (by omega) cA w
    · rw [if_neg e21]
      exact local_word g k a b c nn x y hl p0 p1 hk.1 hk.2 (by omega) (by omega) (by omega) (by omega) (by omega) (by omega) cA (by simpa using e20) (by simpa using e21) w
abbrev lcB : Int → Bool := fun o => decide (locP o)
theorem loc_lcB (o : Int) : prog.loc o = lcB o := rfl
theorem hapF : ∀ k a b : Int, 1 ≤ k → k ≤ 36 → I64 a → I64 b → I64 (word.apF k a b).1 ∧ ((word.apF k a b).2 = 20 → k = 19 ∨ k = 20) ∧ ((word.apF k a b).2 = 21 → k = 25 ∨ k = 26 ∨ k = 27) := fun k a b h1 h2 ha hb => by
  by_cases h15 : k ≤ 15
  · obtain ⟨_, _, q1, q2⟩ := word.apF_one h1 h15 ha b b default
    exact ⟨q1, fun q => by rw [q2] at q; simp at q, fun q => by rw [q2] at q; simp at q⟩
  · exact (word.apF_two (by omega) h2 ha hb default).2.2
/-- What holds between two rounds. -/
structure RunS (w wr : World) (code : List Ins) (g : Gr) (f k : Nat) (h : Gr) : Prop where
  b : Below w.heap.size w wr
  gb : InG wr w.heap.size h
  z : InG wr (w.heap.size + 1) zeroG
  e : runG word.apF lcB code k h = runG word.apF lcB code f g
  i : GrIn code h
set_option maxHeartbeats 2000000 in
theorem run_any (code : List Ins) (ca : Option Addr) (cc : Nat) (g : Gr) (f : Nat) {rg : Int} (hc : GoodC rg code) (hw : ∀ i ∈ code, i.wf) (hg : GrIn code g) (hf : f ≤ 4096) (w : World) (hr : Rows w 5 ca cc (code.map Ins.cells)) (hF : prog.Forms w) :
    Calls Tryd.prog 21 #[.slice ca code.length cc, g.val, .int .i64 (f : Int)] w fun e w' => e = .returned (runG word.apF lcB code f g).val ∧ Below w.heap.size w w' := by
  obtain ⟨h1, h2⟩ := two_boxes w (objG g) (objG zeroG)
  have s0 : RunS w ((w.alloc (objG g)).alloc (objG zeroG)) code g f f g := ⟨boxed2 _ _ _, h1, h2, rfl, hg⟩
  have hrH : Hid (Rows w 5 ca cc (code.map Ins.cells)) := hr
  have hFH : Hid (prog.Forms w) := hF
  have hcH : Hid (GoodC rg code) := hc
  have hwH : Hid (∀ i ∈ code, i.wf) := hw
  have s0H : Hid (RunS w ((w.alloc (objG g)).alloc (objG zeroG)) code g f f g) := s0
  clear hr hF hc hw h1 h2 s0
  go_enter Tryd.func21, Tryd.ntmps21
  go_upto_region 1 with fail
  rw [show (Obj.cells #[.int .i64 0, .int .i64 0, .int .i64 0, .int .i64 0, .int .i64 0, .int .i64 0, .int .i64 0, .int .i64 0, .int .i64 0, .int .i64 0, .int .i64 0, .int .i64 0] 35) = objG zeroG from rfl]
  generalize (w.alloc (objG g)).alloc (objG zeroG) = W at *
  go_loopw [2] (fun u wr => ∃ (k : Nat) (h : Gr), u = .int .i64 (k : Int) ∧ k ≤ 4096 ∧ Hid (RunS w wr code g f k h)) (fun u _ => (intOf u).toNat)
  case atStart => exact ⟨f, g, rfl, hf, s0H⟩
  case round =>
    clear s0H
    obtain ⟨k, h, rfl, hk, hs⟩ := hrel
    have hi := hs.out.i
    obtain ⟨m1, m2⟩ := insAt_mem hi.p0 hi.p1
    obtain ⟨ib, io, hix, hibw, ic0, ic1, ic2, ic3, ic4⟩ := ins_ix hrH.out h.pc.toNat _ m1
    have hib : ib < wr.heap.size := by have := hs.out.b.size; omega
    have lat : ∀ {q : Nat} {v : Value}, w.cell? ⟨ib, q, none⟩ = some v → wr.cell? ⟨ib, q, none⟩ = some v := fun {q v} hv => (hs.out.b.cell (p := ⟨ib, q, none⟩) hibw).trans hv
    replace ic0 := lat ic0
    replace ic1 := lat ic1
    replace ic2 := lat ic2
    replace ic3 := lat ic3
    replace ic4 := lat ic4
    clear lat
    have hpe : ((h.pc.toNat : Nat) : Int) = h.pc := by have := hi.p0; omega
    rw [hpe] at hix
    have z0 := hs.out.gb.c0
    have z2 := hs.out.gb.c2
    have z0f := hs.out.gb.fz 0
    have hop := (hwH.out _ m2).1
    have cL := prog.local_any (insAt code h.pc).op hop.1 hop.2 wr (hFH.out.later hs.out.b) _ rfl
    rw [loc_lcB] at cL
    have hX : h.rg.length = 8 := hi.rl
    by_cases c1 : h.st = 1
    · by_cases c2 : lcB (insAt code h.pc).op = true
      · rw [c2] at cL
        rw [c1] at z0
        cases k with
        | zero =>
          have hfin : Hid (runG word.apF lcB code f g = { h with st := 5 }) := by
            show _ = _
            rw [← hs.out.e]
            exact runG_zero ⟨c1, c2⟩
          have hX5 : ({ h with st := 5 } : Gr).rg.length = 8 := hX
          rw [show (((0 : Nat) : Int)) = 0 from rfl]
          clear c1 c2 hop m1 m2 hi hpe ic1 ic2 ic3 ic4
          go_wp2_with (first
            | (go_at_call 34; (with_reducible refine cL.mono ?_); rintro e w2 ⟨rfl, rfl⟩)
            | (refine wpList_puti rfl 3 _ _ rfl ⟨w.heap.size, 0, none⟩ rfl 5 rfl (by kernel_rfl) _ z0 z0f ?_; intro W1 hW1; (have hg1 : InG W1 w.heap.size { h with st := 5 } := by rw [hW1]; exact hs.out.gb.setS 5); (have hz1 : InG W1 (w.heap.size + 1) zeroG := by rw [hW1]; exact (Below.heap_setCell _ _ _ _ (by simp)).trans hs.out.z); (have hb1 : Hid (Below w.heap.size w W1) := by rw [hW1]; exact hs.out.b.setCell (p := ⟨w.heap.size, 0, none⟩) (Nat.le_refl _) _); clear hW1 z0 z2 z0f ic0)
            | (refine wpList_load_row rfl 35 _ rfl w.heap.size rfl _ _ _ _ hg1 Tryd.underlying35 rfl (infoG hX5) ?_)
            | (refine wpList_store_row rfl 35 _ _ rfl (w.heap.size + 1) (Gr.cells { h with st := 5 }).toArray rfl rfl _ _ hz1 (infoG hX5) (sizeGG rfl hX5) (oneG _) ?_))
          exact bodyPost_ret (results_g Tryd.results21 _ _ (w.heap.size + 1) { h with st := 5 } hX5 rfl (hz1.set _)) rfl ⟨by rw [hfin.out], below_setRowG hb1.out (by omega) _⟩
        | succ k =>
          have hlp : locP (insAt code h.pc).op := of_decide_eq_true c2
          have hnx : Hid (runG word.apF lcB code k (loc1 word.apF h (insAt code h.pc)) = runG word.apF lcB code f g) := by
            show _ = _
            rw [← hs.out.e]
            exact (runG_step ⟨c1, c2⟩ k).symm
          have gi := hcH.out.each _ m2
          have hin : Hid (GrIn code (loc1 word.apF h (insAt code h.pc))) := loc1_in hcH.out hi hlp (hwH.out _ m2).2.2.2.2 fun q1 q2 => (hapF _ _ _ q1 q2 (hi.ri.get _) (hi.ri.get _)).1
          have cl : ∀ wx, LocC h (insAt code h.pc) (loc1 word.apF h (insAt code h.pc)) wx := fun wx => local_all h _ hi.rl hi.ri hi.p0 (by have := hi.p1; have := hcH.out.l64; omega) hcH.out.r8 gi hlp wx
          have hne : ib ≠ w.heap.size := by omega
          have hk0 : (((k + 1 : Nat) : Int) == 0) = false := by simp; omega
          have hkm : ((k + 1 : Nat) : Int) - 1 = (k : Int) := by omega
          have hkw : wrap64 (((k + 1 : Nat) : Int) - 1) = (k : Int) := by rw [hkm]; unfold wrap64; omega
          generalize hi0 : insAt code h.pc = i at *
          obtain ⟨N, hN⟩ : ∃ N, Hid (N = loc1 word.apF h i) := ⟨_, rfl⟩
          have hin' : Hid (GrIn code N) := by show GrIn code N; rw [hN.out]; exact hin.out
          have hnx' : Hid (runG word.apF lcB code k N = runG word.apF lcB code f g) := by show _ = _; rw [hN.out]; exact hnx.out
          have cl' : ∀ wx, LocC h i N wx := fun wx => by rw [hN.out]; exact cl wx
          clear hN cl hin hnx c1 c2 hop m1 m2 hlp gi hi hi0
          have hrg : Hid (wr.rangeAt ib io i.cells) := fun q v hv => by
            match q, hv with
            | 0, hv => cases hv; exact ic0
            | 1, hv => cases hv; exact ic1
            | 2, hv => cases hv; exact ic2
            | 3, hv => cases hv; exact ic3
            | 4, hv => cases hv; exact ic4
          generalize ((k + 1 : Nat) : Int) = K at *
          go_wp2_with (go_at_call 34; (with_reducible refine cL.mono ?_); rintro e w2 ⟨rfl, rfl⟩)
          clear cL ic0 ic1 ic2 ic3 ic4
          have hH : w2.drew.rangeAt ib io i.cells := hrg.out
          have hgd : InG w2.drew w.heap.size h := hs.out.gb
          refine wp_region_held_drew (S := fun w' => w'.rangeAt ib io i.cells) (by kernel_rfl) hH (fun _ => ?_)
          refine reg_move (i := 1) rfl (by kernel_rfl) (by kernel_rfl) (by kernel_rfl) (fun _ _ _ _ h => h) rfl (.slice ca code.length cc) (fun _ => rfl) hH ?_
          simp only [Act.put, List.getElem_toArray, List.getElem_cons_succ, List.getElem_cons_zero, List.setIfInBounds_toArray, List.set_cons_zero, List.set_cons_succ]
          refine reg_move (i := 2) rfl (by kernel_rfl) (by kernel_rfl) (by kernel_rfl) (fun _ _ _ _ h => h) rfl (.pointer (some ⟨w.heap.size, 2, none⟩)) (fun _ => by kernel_rfl) hH ?_
          simp only [Act.put, List.getElem_toArray, List.getElem_cons_succ, List.getElem_cons_zero, List.setIfInBounds_toArray, List.set_cons_zero, List.set_cons_succ]
          refine reg_two (i := 0) (j := 3) (by kernel_rfl) rfl rfl rfl rfl ?_ ?_
          · refine (wpList_load_row rfl 35 _ rfl w.heap.size rfl _ _ _ _ hgd Tryd.underlying35 rfl (infoG hX) (wpList_nil (And.intro hH fun _ => ?_)))
            simp only [Act.put, List.getElem_toArray, List.getElem_cons_succ, List.getElem_cons_zero, List.setIfInBounds_toArray, List.set_cons_zero, List.set_cons_succ]
            refine reg_one (i := 3) (by kernel_rfl) rfl rfl (wpList_load1 rfl 3 _ rfl ⟨w.heap.size, 2, none⟩ rfl _ Tryd.underlying3 rfl _ hgd.c2 (wpList_nil (And.intro hH fun _ => ?_)))
            simp only [Act.put, List.getElem_toArray, List.getElem_cons_succ, List.getElem_cons_zero, List.setIfInBounds_toArray, List.set_cons_zero, List.set_cons_succ]
            refine reg_move (i := 4) rfl (by kernel_rfl) (by kernel_rfl) (by kernel_rfl) (fun _ _ _ _ h => h) rfl (.pointer (some ⟨ib, io, none⟩)) (fun wx => by unfold execOp; exact run_valueS (hix wx)) hH ?_
            simp only [Act.put, List.getElem_toArray, List.getElem_cons_succ, List.getElem_cons_zero, List.setIfInBounds_toArray, List.set_cons_zero, List.set_cons_succ]
            refine reg_load (i := 5) rfl (by kernel_rfl) (by kernel_rfl) (by kernel_rfl) (fun _ _ _ _ h => h) rfl 74 _ rfl ib io rfl i.cells _ (fun w' h' => h') Tryd.underlying74 rfl (by kernel_rfl) hH ?_
            simp only [Act.put, List.getElem_toArray, List.getElem_cons_succ, List.getElem_cons_zero, List.setIfInBounds_toArray, List.set_cons_zero, List.set_cons_succ]
            refine reg_call2 (i := 6) (by kernel_rfl) rfl rfl 35 _ _ _ _ rfl h.val i.val rfl rfl (cf_fn Tryd.func35 (by kernel_rfl) (by kernel_rfl) _ _) _ (cl' _) ?_
            rintro e w6 ⟨rfl, hb6⟩
            have hb6' : Below w2.heap.size w2 w6 := bthen (bey_drew w2) hb6
            have hg6 : InG w6 w.heap.size h := hs.out.gb.later hb6'
            have hz6 : InG w6 (w.heap.size + 1) zeroG := hs.out.z.later hb6'
            have hr6 : w6.rangeAt ib io i.cells := fun q v hv => (hb6'.cell (p := ⟨ib, io + q, none⟩) hib).trans (hrg.out q v hv)
            refine ⟨_, rfl, hr6, fun _ => ?_⟩
            simp only [Act.put, List.getElem_toArray, List.getElem_cons_succ, List.getElem_cons_zero, List.setIfInBounds_toArray, List.set_cons_zero, List.set_cons_succ]
            have hr7 : (w6.setRow w.heap.size N.cells.toArray).rangeAt ib io i.cells := fun q v hv => by
              have e7 : (w6.setRow w.heap.size N.cells.toArray).heap[ib]? = w6.heap[ib]? := setRow_other _ _ _ _ hne
              have := hr6 q v hv
              simp only [World.cell?] at this ⊢
              rw [e7]
              exact this
            refine reg_one (i := 7) (by kernel_rfl) rfl rfl (wpList_store_row rfl 35 _ _ rfl w.heap.size N.cells.toArray rfl rfl _ _ hg6 (infoG hin'.out.rl) (sizeGG hX hin'.out.rl) (oneG N) (wpList_nil (And.intro hr7 fun _ => ?_)))
            simp only [Act.put, List.getElem_toArray, List.getElem_cons_succ, List.getElem_cons_zero, List.setIfInBounds_toArray, List.set_cons_zero, List.set_cons_succ]
            refine wpAnyH_done (by kernel_rfl) ?_ _
            have hs7 : Hid (RunS w (w6.setRow w.heap.size N.cells.toArray) code g f k N) := ⟨below_setRowG (bthen hs.out.b hb6') (Nat.le_refl _) _, hg6.set N, hz6.other _ (by omega), hnx'.out, hin'.out⟩
            generalize w6.setRow w.heap.size N.cells.toArray = W7 at *
            clear hr7 hr6 hz6 hg6 hb6' hb6
            go_wp2
            go_roundw
            case rel => exact ⟨k, N, by first | rfl | (rw [hkw]), by omega, hs7⟩
            case measure => simp [intOf]; omega
          · refine (wpList_load1 rfl 3 _ rfl ⟨w.heap.size, 2, none⟩ rfl _ Tryd.underlying3 rfl _ hgd.c2 (wpList_nil (And.intro hH fun _ => ?_)))
            simp only [Act.put, List.getElem_toArray, List.getElem_cons_succ, List.getElem_cons_zero, List.setIfInBounds_toArray, List.set_cons_zero, List.set_cons_succ]
            refine reg_move (i := 4) rfl (by kernel_rfl) (by kernel_rfl) (by kernel_rfl) (fun _ _ _ _ h => h) rfl (.pointer (some ⟨ib, io, none⟩)) (fun wx => by unfold execOp; exact run_valueS (hix wx)) hH ?_
            simp only [Act.put, List.getElem_toArray, List.getElem_cons_succ, List.getElem_cons_zero, List.setIfInBounds_toArray, List.set_cons_zero, List.set_cons_succ]
            refine reg_load (i := 5) rfl (by kernel_rfl) (by kernel_rfl) (by kernel_rfl) (fun _ _ _ _ h => h) rfl 74 _ rfl ib io rfl i.cells _ (fun w' h' => h') Tryd.underlying74 rfl (by kernel_rfl) hH ?_
            simp only [Act.put, List.getElem_toArray, List.getElem_cons_succ, List.getElem_cons_zero, List.setIfInBounds_toArray, List.set_cons_zero, List.set_cons_succ]
            refine reg_one (i := 0) (by kernel_rfl) rfl rfl (wpList_load_row rfl 35 _ rfl w.heap.size rfl _ _ _ _ hgd Tryd.underlying35 rfl (infoG hX) (wpList_nil (And.intro hH fun _ => ?_)))
            simp only [Act.put, List.getElem_toArray, List.getElem_cons_succ, List.getElem_cons_zero, List.setIfInBounds_toArray, List.set_cons_zero, List.set_cons_succ]
            refine reg_call2 (i := 6) (by kernel_rfl) rfl rfl 35 _ _ _ _ rfl h.val i.val rfl rfl (cf_fn Tryd.func35 (by kernel_rfl) (by kernel_rfl) _ _) _ (cl' _) ?_
            rintro e w6 ⟨rfl, hb6⟩
            have hb6' : Below w2.heap.size w2 w6 := bthen (bey_drew w2) hb6
            have hg6 : InG w6 w.heap.size h := hs.out.gb.later hb6'
            have hz6 : InG w6 (w.heap.size + 1) zeroG := hs.out.z.later hb6'
            have hr6 : w6.rangeAt ib io i.cells := fun q v hv => (hb6'.cell (p := ⟨ib, io + q, none⟩) hib).trans (hrg.out q v hv)
            refine ⟨_, rfl, hr6, fun _ => ?_⟩
            simp only [Act.put, List.getElem_toArray, List.getElem_cons_succ, List.getElem_cons_zero, List.setIfInBounds_toArray, List.set_cons_zero, List.set_cons_succ]
            have hr7 : (w6.setRow w.heap.size N.cells.toArray).rangeAt ib io i.cells := fun q v hv => by
              have e7 : (w6.setRow w.heap.size N.cells.toArray).heap[ib]? = w6.heap[ib]? := setRow_other _ _ _ _ hne
              have := hr6 q v hv
              simp only [World.cell?] at this ⊢
              rw [e7]
              exact this
            refine reg_one (i := 7) (by kernel_rfl) rfl rfl (wpList_store_row rfl 35 _ _ rfl w.heap.size N.cells.toArray rfl rfl _ _ hg6 (infoG hin'.out.rl) (sizeGG hX hin'.out.rl) (oneG N) (wpList_nil (And.intro hr7 fun _ => ?_)))
            simp only [Act.put, List.getElem_toArray, List.getElem_cons_succ, List.getElem_cons_zero, List.setIfInBounds_toArray, List.set_cons_zero, List.set_cons_succ]
            refine wpAnyH_done (by kernel_rfl) ?_ _
            have hs7 : Hid (RunS w (w6.setRow w.heap.size N.cells.toArray) code g f k N) := ⟨below_setRowG (bthen hs.out.b hb6') (Nat.le_refl _) _, hg6.set N, hz6.other _ (by omega), hnx'.out, hin'.out⟩
            generalize w6.setRow w.heap.size N.cells.toArray = W7 at *
            clear hr7 hr6 hz6 hg6 hb6' hb6
            go_wp2
            go_roundw
            case rel => exact ⟨k, N, by first | rfl | (rw [hkw]), by omega, hs7⟩
            case measure => simp [intOf]; omega
      · have c3 : lcB (insAt code h.pc).op = false := by simpa using c2
        rw [c3] at cL
        rw [c1] at z0
        have hfin : Hid (runG word.apF lcB code f g = h) := by
          show _ = _
          rw [← hs.out.e]
          exact runG_stop (fun q => c2 q.2) k
        have hg1 := hs.out.gb
        have hz1 := hs.out.z
        clear c1 c2 c3 hop m1 m2 hi hpe
        go_wp2_with (first
          | (go_at_call 34; (with_reducible refine cL.mono ?_); rintro e w2 ⟨rfl, rfl⟩)
          | (refine wpList_load_row rfl 35 _ rfl w.heap.size rfl _ _ _ _ hg1 Tryd.underlying35 rfl (infoG hX) ?_)
          | (refine wpList_store_row rfl 35 _ _ rfl (w.heap.size + 1) h.cells.toArray rfl rfl _ _ hz1 (infoG hX) (sizeGG rfl hX) (oneG _) ?_))
        exact bodyPost_ret (results_g Tryd.results21 _ _ (w.heap.size + 1) h hX rfl (hz1.set _)) rfl ⟨by rw [hfin.out], below_setRowG hs.out.b (by omega) _⟩
    · have hfin : Hid (runG word.apF lcB code f g = h) := by
        show _ = _
        rw [← hs.out.e]
        exact runG_stop (fun q => c1 q.1) k
      have c3 : (h.st == 1) = false := by simpa using c1
      have hg1 := hs.out.gb
      have hz1 := hs.out.z
      clear c1 hop m1 m2 hi hpe cL
      go_wp2_with (first
        | (refine wpList_load_row rfl 35 _ rfl w.heap.size rfl _ _ _ _ hg1 Tryd.underlying35 rfl (infoG hX) ?_)
        | (refine wpList_store_row rfl 35 _ _ rfl (w.heap.size + 1) h.cells.toArray rfl rfl _ _ hz1 (infoG hX) (sizeGG rfl hX) (oneG _) ?_))
      exact bodyPost_ret (results_g Tryd.results21 _ _ (w.heap.size + 1) h hX rfl (hz1.set _)) rfl ⟨by rw [hfin.out], below_setRowG hs.out.b (by omega) _⟩
end Go.Proofs.YtjcmhaaohdmjpaaDoor.pg
