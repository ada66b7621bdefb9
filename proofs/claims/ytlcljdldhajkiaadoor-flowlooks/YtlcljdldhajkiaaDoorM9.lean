/- A region that draws its order, in the body of a loop over an iterator: what is shown of it outside holds there. -/
import Derived.Test.YtlcljdldhajkiaaDoorM8
import Derived.RangeFuncNested
import Derived.RangeFuncBound
import Derived.RangeFuncCalls
import Derived.RangeFuncLeaves
import Derived.OwnWalkIn
import Derived.TacticsInMore
import Derived.LoopNIn
import Derived.LoopIn
import Derived.OrdersIn
import Derived.Great.BuildSlice
import Derived.Test.YtlcljdldhajkiaaDoorM3
import Derived.Test.YtlcljdldhajkiaaDoorM7
namespace Go.Proofs.YtlcljdldhajkiaaDoor.pg
open Go.ChangeShapes Go.WideShapes Go.ChangeAt Go.RowKit
set_option linter.unusedVariables false
set_option linter.unusedSimpArgs false
section
variable {P : Program} {ops : Array Oper} {Q : Exit → Act → World → Prop} {l n : Nat}
/-- No operation that defers a call. -/
def noDefer (ops : Array Oper) : Bool := ops.all fun o => match o.op with
  | .defer _ => false
  | _ => true
theorem noDefer_at {i : Nat} {o : Oper} (h : noDefer ops = true) (ho : ops[i]? = some o) (c : Call) : o.op ≠ .defer c := by
  intro e
  unfold noDefer at h
  rw [Array.all_eq_true] at h
  obtain ⟨hi, hx⟩ := Array.getElem?_eq_some_iff.mp ho
  have := h i hi
  rw [hx, e] at this
  simp at this
theorem wide_room (k : Nat) : (Fence.wide.inRound l).room k := fun d h => by simp [Fence.wide, Fence.inRound] at h
theorem wide_depth : (Fence.wide.inRound l).depth.isSome = true → 1 ≤ n := fun h => by simp [Fence.wide, Fence.inRound] at h
theorem op_round {o : Oper} {a : Act} {w : World} {K : Act → World → Prop} (hd : ∀ c, o.op ≠ .defer c) (h : o.wp P a w K Q) : o.wpIn (Fence.wide.inRound l) n P a w K Q := by
  unfold Oper.wp at h
  unfold Oper.wpIn
  refine ⟨fun f _ => trivial, ?_⟩
  rw [Fence.inRound_round, Oper.semAt_some l _ _ hd]
  generalize (execOp a.eval o).run P w = r at *
  cases r with
  | ok x w' =>
    cases x <;> simp only [Oper.upon, Oper.uponIn] at h ⊢ <;> first
      | exact h
      | exact ⟨wide_depth, CallsIn.inRound l (callsIn_wide.2 h)⟩
      | exact ⟨wide_depth, fun c cs _ => let ⟨v, w', r, s⟩ := h c cs; ⟨v, w', r, stepsIn_wide.2 s⟩⟩
  | halt x w' => cases x <;> simp only [Oper.upon, Oper.uponIn] at h ⊢ <;> exact h
theorem any_round {md : Region.Mode} (hd : noDefer ops = true) (hno : ¬ LetsOut Q) : ∀ (fuel : Nat) (listed : Array Bool) (a : Act) (w : World), wpAny P md ops Q fuel listed a w → wpAnyIn (Fence.wide.inRound l) n P md ops Q fuel listed a w
  | 0, _, _, _, h => h
  | fuel + 1, listed, a, w, h => ⟨h.1, fun i hi => by
    have h2 := h.2 i hi
    unfold wpOp at h2
    unfold wpOpIn
    cases ho : ops[i]? with
    | none =>
      simp only [ho] at h2
      exact any_round hd hno fuel _ a w h2
    | some o =>
      simp only [ho] at h2
      by_cases hw : Region.wanted o (yielded ops a.tmps) = true
      · simp only [hw, if_true] at h2 ⊢
        rcases h2 with h2 | h2
        · exact op_round (noDefer_at hd ho) (Oper.wp_mono (fun a' w' h' => any_round hd hno fuel _ a' w' h') h2)
        · exact (hno h2.2).elim
      · simp only [hw] at h2 ⊢
        exact ⟨fun f _ => trivial, any_round hd hno fuel _ _ w h2⟩⟩
theorem wpR_any {id : Nat} {a : Act} {w : World} (hm : P.follows .mixedOrders = true) (hd : noDefer ops = true) (hno : ¬ LetsOut Q)
    (h : wpAny P .any ops Q ops.size (Array.replicate ops.size false) a { w with drawn := w.drawn + 1 }) : (Code.region id ops true).wpIn (Fence.wide.inRound l) n P Q a w :=
  wpIn_region_any hm (any_round hd hno _ _ _ _ h)
/-- Walked once in the order of its text, in every world of a class. -/
theorem wpR_cls (S : World → Prop) {id : Nat} {a : Act} {w : World} {L : List Oper} (hm : P.follows .mixedOrders = true) (hB : Region.lexB .any L.toArray = true) (hd : noDefer L.toArray = true) (hno : ¬ LetsOut Q) (hS : S w.drew)
    (h : wpQuiet P L.toArray (fun w' => ∃ s : Cls S, w' = s.w) (fun a' => ∀ w', (∃ s : Cls S, w' = s.w) → Q .normal a' w') L a) : (Code.region id L.toArray true).wpIn (Fence.wide.inRound l) n P Q a w := by
  simp only [Region.lexB, Bool.and_eq_true] at hB
  refine wpR_any hm hd hno (wpAny_of_quiet (C := fun w' => ∃ s : Cls S, w' = s.w) (Q := fun a' => ∀ w', (∃ s : Cls S, w' = s.w) → Q .normal a' w') (fun _ w' hw' h => h w' hw') _ _ _ _ ⟨⟨_, hS⟩, rfl⟩ ?_)
  have := wpAnyQ_lex (C := fun w' => ∃ s : Cls S, w' = s.w) (md := .any) hB.1 L 0 (Array.replicate L.toArray.size false) a (by simp) (by simpa using hB.2) h
  simpa using this
/-- Walked by hand, a condition on the world held. -/
theorem wpR_held (S : World → Prop) {id : Nat} {a : Act} {w : World} (hm : P.follows .mixedOrders = true) (hd : noDefer ops = true) (hno : ¬ LetsOut Q)
    (h : wpAnyH P .any ops Q S ops.size (Array.replicate ops.size false) a w.drew) : (Code.region id ops true).wpIn (Fence.wide.inRound l) n P Q a w :=
  wpR_any hm hd hno (wpAny_of_held _ _ _ _ h)
end
end Go.Proofs.YtlcljdldhajkiaaDoor.pg
/- More moves in a region that draws its order: loads of one cell, and operations that turn the world, by the laws of lists of operations. -/
namespace Go.Proofs.YtlcljdldhajkiaaDoor.pg
open Go.ChangeShapes Go.WideShapes Go.ChangeAt Go.RowKit
set_option linter.unusedVariables false
set_option linter.unusedSimpArgs false
theorem run_load1 {P : Program} {o : Oper} {ρ : Operand → Value} (ty : TypeId) (x : Operand) (ho : o.op = .load ty x) (ad : Addr) (hx : ρ x = .pointer (some ad)) (d : TypeDesc) (hu : P.underlying ty = some d) (hd : d.isRow = false) {w : World} {v : Value} (hc : w.cell? ad = some v) :
    (execOp ρ o).run P w = .ok (.value v) w := by
  unfold execOp
  have hagg : (isAgg ty).run P w = .ok false w := by
    unfold isAgg
    rw [Sem.run_bind, run_underlying hu w]
    cases d <;> simp_all [TypeDesc.isRow]
  simp [ho, hx, Instr.loadAt, Instr.sureAddr, loadVar, hagg, go_sem, hc]
theorem wpList_load1 {P : Program} {ops : Array Oper} {rest : List Oper} {o : Oper} {a : Act} {w : World} {Q : Exit → Act → World → Prop} (hgd : o.guard = none) (ty : TypeId) (x : Operand) (ho : o.op = .load ty x) (ad : Addr) (hx : a.eval x = .pointer (some ad)) (d : TypeDesc) (hu : P.underlying ty = some d) (hd : d.isRow = false) (v : Value) (hc : w.cell? ad = some v)
    (h : wpList P ops Q rest (a.put o.dst v) w) : wpList P ops Q (o :: rest) a w := wpList_plain hgd fun K hK => by
  unfold Oper.wp
  rw [run_load1 ty x ho ad hx d hu hd hc]
  exact hK _ _ h
/-- A slice stored into one cell. -/
theorem run_store1 {P : Program} {o : Oper} {ρ : Operand → Value} (ty : TypeId) (x y : Operand) (ho : o.op = .store ty x y) (ad : Addr) (hx : ρ x = .pointer (some ad)) (g : Option Addr) (n cap : Nat) (hy : ρ y = .slice g n cap) (hi : (P.info? ty).map (·.size) = some 1) {w : World} {v : Value} (hc : w.cell? ad = some v) (hf : w.frozen? ad = false) :
    (execOp ρ o).run P w = .ok .skip (w.setCell ad (.slice g n cap)) := by
  cases hq : P.info? ty with
  | none => simp [hq] at hi
  | some i =>
    have hs : i.size = 1 := by simpa [hq] using hi
    unfold execOp
    simp [ho, hx, hy, Instr.storeAt, Instr.sureAddr, storeVar, sizeOf, typeInfo, hq, hs, Value.cells, go_sem, hc, hf]
theorem wpList_store1 {P : Program} {ops : Array Oper} {rest : List Oper} {o : Oper} {a : Act} {w : World} {Q : Exit → Act → World → Prop} (hgd : o.guard = none) (ty : TypeId) (x y : Operand) (ho : o.op = .store ty x y) (ad : Addr) (hx : a.eval x = .pointer (some ad)) (g : Option Addr) (n cap : Nat) (hy : a.eval y = .slice g n cap) (hi : (P.info? ty).map (·.size) = some 1) (v : Value) (hc : w.cell? ad = some v) (hf : w.frozen? ad = false)
    (h : wpList P ops Q rest (a.put o.dst undef) (w.setCell ad (.slice g n cap))) : wpList P ops Q (o :: rest) a w := wpList_plain hgd fun K hK => by
  unfold Oper.wp
  rw [run_store1 ty x y ho ad hx g n cap hy hi hc hf]
  exact hK _ _ h
/-- Normal, and so on; nothing else. -/
def okQ (K : Act → World → Prop) : Exit → Act → World → Prop
  | .normal, a, w => K a w
  | _, _, _ => False
theorem okQ_out (K : Act → World → Prop) : ¬ LetsOut (okQ K) := fun ⟨_, _, h⟩ => h
theorem op_two {P : Program} {o : Oper} {a : Act} {w : World} {K K' : Act → World → Prop} {Q : Exit → Act → World → Prop} (h : ∀ a w, K a w → K' a w) (hh : o.wp P a w K (okQ K)) : o.wp P a w K' Q := by
  unfold Oper.wp at *
  generalize (execOp a.eval o).run P w = r at *
  cases r with
  | ok n w' =>
    cases n <;> simp only [Oper.upon] at hh ⊢ <;>
      first
        | exact h _ _ hh
        | exact Calls.mono hh (fun e w'' he => by cases e <;> first | exact h _ _ he | exact (okQ_out _ he).elim | exact he.elim)
        | exact Rows.mono hh (fun _ _ he => h _ _ he)
  | halt x w' => cases x <;> simp only [Oper.upon] at hh ⊢ <;> exact hh.elim
section
variable {P : Program} {ops : Array Oper} {Q : Exit → Act → World → Prop} {S : World → Prop} {fuel : Nat} {listed : Array Bool} {a : Act} {w : World}
theorem reg_load1 {i : Nat} {o : Oper} (ho : ops[i]? = some o) (hs : Region.noSelect ops = true) (hf : Region.free .any ops listed i = true) (hr : (Region.ready .any ops listed).contains i = true)
    (hQ : ∀ c v a w, Q (.panic c) (a.put o.dst v) w → Q (.panic c) a w) (hw : Region.wanted o (yielded ops a.tmps) = true) (ty : TypeId) (x : Operand) (hl : o.op = .load ty x) (ad : Addr) (hx : a.eval x = .pointer (some ad)) (d : TypeDesc) (hu : P.underlying ty = some d) (hd : d.isRow = false) (v : Value)
    (hS : ∀ w, S w → w.cell? ad = some v) (hSw : S w)
    (h : wpAnyH P .any ops Q S fuel (listed.setIfInBounds i true) (a.put o.dst v) w) : wpAnyH P .any ops Q S (fuel + 1) listed a w :=
  wpAnyH_take ho hs hf hr (fun c a w => hQ c _ a w) (.inl ⟨hw, fun w h => run_load1 ty x hl ad hx d hu hd (hS w h)⟩) hSw h
/-- An operation among those that may come up, by a law of lists. -/
theorem arm_list {i : Nat} {o : Oper} (hw : Region.wanted o (yielded ops a.tmps) = true) (h : wpList P ops (okQ fun a' w' => S w' ∧ (S w' → wpAnyH P .any ops Q S fuel (listed.setIfInBounds i true) a' w')) [o] a w) :
    ∀ K' : Act → World → Prop, Shut (∀ a w, S w → (S w → wpAnyH P .any ops Q S fuel (listed.setIfInBounds i true) a w) → K' a w) → if Region.wanted o (yielded ops a.tmps) = true then Oper.wp P o a w K' Q else K' (a.put o.dst undef) w := fun K hK => by
  rw [if_pos hw]
  unfold wpList at h
  rw [if_pos hw] at h
  rcases h with h | h
  · exact op_two (fun a' w' q => hK.out a' w' q.1 q.2) h
  · exact (okQ_out _ h.2).elim
/-- The only one that may come up. -/
theorem reg_one {i : Nat} {o : Oper} (hr : Region.ready .any ops listed = [i]) (ho : ops[i]? = some o) (hw : Region.wanted o (yielded ops a.tmps) = true) (h : wpList P ops (okQ fun a' w' => S w' ∧ (S w' → wpAnyH P .any ops Q S fuel (listed.setIfInBounds i true) a' w')) [o] a w) :
    wpAnyH P .any ops Q S (fuel + 1) listed a w := wpAnyH_ready hr (by simp) (AllReadyH.cons ho (arm_list hw h) AllReadyH.nil)
theorem reg_two {i j : Nat} {o p : Oper} (hr : Region.ready .any ops listed = [i, j]) (ho : ops[i]? = some o) (hp : ops[j]? = some p) (hw : Region.wanted o (yielded ops a.tmps) = true) (hw2 : Region.wanted p (yielded ops a.tmps) = true)
    (h : wpList P ops (okQ fun a' w' => S w' ∧ (S w' → wpAnyH P .any ops Q S fuel (listed.setIfInBounds i true) a' w')) [o] a w) (h2 : wpList P ops (okQ fun a' w' => S w' ∧ (S w' → wpAnyH P .any ops Q S fuel (listed.setIfInBounds j true) a' w')) [p] a w) :
    wpAnyH P .any ops Q S (fuel + 1) listed a w := wpAnyH_ready hr (by simp) (AllReadyH.cons ho (arm_list hw h) (AllReadyH.cons hp (arm_list hw2 h2) AllReadyH.nil))
/-- In a round, an operation of a region that keeps its order, by a law of lists. -/
theorem inR_list {l n : Nat} {rest : List Oper} {o : Oper} (hgd : o.guard = none) (hd : ∀ c, o.op ≠ .defer c) (h : wpList P ops (okQ fun a' w' => wpListIn (Fence.wide.inRound l) n P ops Q rest a' w') [o] a w) : wpListIn (Fence.wide.inRound l) n P ops Q (o :: rest) a w :=
  wpListIn_plain hgd fun K hK => op_round hd (by
    unfold wpList at h
    rw [if_pos (by simp [Region.wanted, hgd])] at h
    rcases h with h | h
    · exact op_two (fun a' w' q => hK a' w' q) h
    · exact (okQ_out _ h.2).elim)
end
end Go.Proofs.YtlcljdldhajkiaaDoor.pg
/- Some of a function's places: an array of truths; its places as a list. -/
namespace Go.Proofs.YtlcljdldhajkiaaDoor.pg
open Go.ChangeShapes Go.WideShapes Go.ChangeAt Go.RowKit
set_option linter.unusedVariables false
set_option linter.unusedSimpArgs false
set_option maxRecDepth 100000
attribute [local go_sem ↓] Go.wp_at_zero Go.wp_at_succ
def boolRow (n : Nat) (f : Nat → Bool) : Array Value := ((List.range n).map fun j => Value.bool (f j)).toArray
theorem boolRow_at {n : Nat} {f : Nat → Bool} {j : Nat} (h : j < n) : (boolRow n f)[j]? = some (.bool (f j)) := by simp [boolRow, h]
theorem boolRow_set {n : Nat} {f : Nat → Bool} {j : Nat} (v : Bool) : (boolRow n f).setIfInBounds j (.bool v) = boolRow n (fun b => if b = j then v else f b) := by
  apply Array.ext'
  simp only [boolRow, Array.toList_setIfInBounds, List.toList_toArray]
  apply List.ext_getElem?
  intro k
  rw [List.getElem?_set]
  simp only [List.length_map, List.length_range, List.getElem?_map]
  by_cases c : j = k
  · subst c
    by_cases h : j < n
    · simp [h, List.getElem?_range]
    · simp [h, List.getElem?_range]
  · rw [if_neg c]
    by_cases h : k < n
    · simp [List.getElem?_range, h, Ne.symm c]
    · simp [List.getElem?_range, h]
theorem cell_ofF {w : World} {B k : Nat} {cs : Array Value} {t : TypeId} {v : Value} (h : w.heap[B]? = some (.cells cs t (0, 0))) (hk : cs[k]? = some v) : w.cell? ⟨B, k, none⟩ = some v := by
  simp [World.cell?, h, hk]
theorem infoN_u : (Tryd.prog.info? 3).map (fun i => (i.zero, i.size, i.bytes)) = some (some (.int .i64 0), 1, 8) := by kernel_rfl
theorem one1u (x : Int) : ∀ u ∈ chCells x, u.oneCell' = true := by intro u hu; simp [chCells] at hu; subst hu; rfl
theorem len1u (l : List Int) : ∀ row ∈ l.map chCells, row.length = 1 := by intro r hr; simp only [List.mem_map] at hr; obtain ⟨x, _, rfl⟩ := hr; rfl
theorem boolRow_size (n : Nat) (f : Nat → Bool) : (boolRow n f).size = n := by simp [boolRow]
theorem boolRow_one (n : Nat) (f : Nat → Bool) : (boolRow n f).all (·.oneCell') = true := by
  rw [Array.all_eq_true_iff_forall_mem]
  intro v hv
  simp only [boolRow, List.mem_toArray, List.mem_map] at hv
  obtain ⟨j, _, rfl⟩ := hv
  rfl
theorem infoSt (f : Nat → Bool) : (Tryd.prog.info? 65).map (·.size) = some (boolRow 64 f).size := by rw [boolRow_size]; kernel_rfl
theorem zeroSt : ∀ w, (zeroValue 65).run Tryd.prog w = .ok (.agg (boolRow 64 fun _ => false)) w := fun w => by kernel_rfl
/-- The places below n. -/
def lst (f : Nat → Bool) : Nat → List Int
  | 0 => []
  | n + 1 => lst f n ++ (if f n = true then [(n : Int)] else [])
theorem lst_len (f : Nat → Bool) : ∀ n, (lst f n).length ≤ n
  | 0 => Nat.le_refl _
  | n + 1 => by
    have := lst_len f n
    rw [lst, List.length_append]
    split <;> simp <;> omega
theorem lst_mem (f : Nat → Bool) (p : Int) : ∀ n, p ∈ lst f n ↔ ∃ k : Nat, k < n ∧ f k = true ∧ p = (k : Int)
  | 0 => by simp [lst]
  | n + 1 => by
    rw [lst, List.mem_append, lst_mem f p n]
    constructor
    · rintro (⟨k, h1, h2, h3⟩ | h)
      · exact ⟨k, by omega, h2, h3⟩
      · split at h
        · rename_i c
          simp at h
          exact ⟨n, by omega, c, h⟩
        · simp at h
    · rintro ⟨k, h1, h2, h3⟩
      by_cases c : k = n
      · subst c
        right
        rw [if_pos h2]
        simp [h3]
      · exact .inl ⟨k, by omega, h2, h3⟩
theorem lst_congr {f g : Nat → Bool} : ∀ n, (∀ k, k < n → f k = g k) → lst f n = lst g n
  | 0, _ => rfl
  | n + 1, h => by rw [lst, lst, lst_congr n fun k hk => h k (by omega), h n (by omega)]
theorem lst_cut {f : Nat → Bool} {m : Nat} : ∀ n, m ≤ n → (∀ k, m ≤ k → k < n → f k = false) → lst f n = lst f m
  | 0, h, _ => by have : m = 0 := by omega
                  subst this; rfl
  | n + 1, h, hf => by
    by_cases c : m = n + 1
    · rw [c]
    · rw [lst, lst_cut n (by omega) fun k h1 h2 => hf k h1 (by omega), hf n (by omega) (by omega)]
      simp
theorem ix_val (f : Nat → Bool) (k : Nat) (h : k < 64) : ∀ wx, (Instr.index 65 (.agg (boolRow 64 f)) (.int .i64 (k : Int))).run Tryd.prog wx = .ok (.bool (f k)) wx := by
  intro wx
  have u := Tryd.underlying65
  have z := Tryd.sizeOf4
  have ub := Tryd.underlying4
  have q1 : (k : Int) < 64 := by omega
  have q2 : (0 : Int) ≤ (k : Int) := by omega
  simp [Instr.index, run_underlying u, asIntOf, go_sem, z, q1, q2, part, isAgg, run_underlying ub, boolRow_at h]
  intro q
  omega
theorem ix_set (B k : Nat) (h : k < 64) : ∀ wx, (Instr.indexAt 65 (.pointer (some ⟨B, 0, none⟩)) (.int .i64 (k : Int))).run Tryd.prog wx = .ok (.pointer (some ⟨B, k, none⟩)) wx := by
  intro wx
  have u := Tryd.underlying65
  have z := Tryd.sizeOf4
  have q1 : (k : Int) < 64 := by omega
  have q2 : ¬ (k : Int) < 0 := by omega
  simp [Instr.indexAt, run_underlying u, asIntOf, go_sem, z, q1, q2]
  intro q
  omega
structure LsS (w : World) (L : List Int) (va : Option Addr) (vc : Nat) (wr : World) : Prop where
  be : Below w.heap.size w wr
  ow : OwnL wr w.heap.size 3 1 va vc (L.map chCells)
theorem LsS.later {w : World} {L : List Int} {va : Option Addr} {vc : Nat} {wr w' : World} (h : LsS w L va vc wr) (hb : Below wr.heap.size wr w') : LsS w L va vc w' :=
  ⟨bthen h.be hb, own_keep h.ow fun b hb' => hb.block b (blk_lt h.ow b hb').2⟩
theorem LsS.rows {w : World} {L : List Int} {va : Option Addr} {vc : Nat} {wr : World} (h : LsS w L va vc wr) : Rows wr 1 va vc (L.map chCells) := own_rows h.ow (len1u _)
theorem LsS.grown {w : World} {L : List Int} {va va' : Option Addr} {vc vc' : Nat} {wr w' : World} {x : Int} (h : LsS w L va vc wr) (hg : Grown wr w.heap.size 3 1 va (L.map chCells) (chCells x) va' vc' w') : LsS w (L ++ [x]) va' vc' w' :=
  ⟨below_min h.be h.be.size hg.be, by rw [List.map_append]; exact hg.ow⟩
set_option maxHeartbeats 1000000 in
theorem list_any (f : Nat → Bool) (w : World) : Calls Tryd.prog 36 #[.agg (boolRow 64 f)] w fun e w' => ∃ va vc, e = .returned (.slice va (lst f 64).length vc) ∧ LsS w (lst f 64) va vc w' := by
  obtain ⟨iN, hiN, hzN, hsN, hbN⟩ := info_q infoN_u
  have bx := boxed w (.cells (boolRow 64 f) 65)
  have hn : Hid _ := heap_alloc_new w (.cells (boolRow 64 f) 65)
  have huS : Hid (Tryd.prog.underlying 65 = _) := Tryd.underlying65
  have s0 : Hid (LsS w (lst f 0) none 0 (w.alloc (.cells (boolRow 64 f) 65))) := ⟨bx, own_nil_q _ _ _ _⟩
  clear bx
  go_enter Tryd.func36, Tryd.ntmps36
  go_wp2_with (first
    | (refine wpList_load_row rfl 65 _ rfl w.heap.size rfl _ _ _ _ hn.out huS.out rfl (infoSt f) ?_))
  clear hn
  generalize w.alloc (.cells (boolRow 64 f) 65) = W at *
  go_loopw [3, 7] (fun o u wr => ∃ (k : Nat) (va : Option Addr) (vc : Nat), k ≤ 64 ∧ u = .int .i64 k ∧ o = .slice va (lst f k).length vc ∧ Hid (LsS w (lst f k) va vc wr)) (fun _ u _ => 64 - (intOf u).toNat)
  case atStart => exact ⟨0, none, 0, by omega, rfl, rfl, s0⟩
  case round =>
    obtain ⟨k, va, vc, hk, rfl, rfl, hs⟩ := hrel
    clear s0
    by_cases hlt : k < 64
    · have hkI : (k : Int) < 64 := by omega
      have xV := ix_val f k hlt
      have hll := lst_len f k
      have hmore : Hid (lst f (k + 1) = lst f k ++ (if f k = true then [(k : Int)] else [])) := rfl
      obtain ⟨b, hb⟩ : ∃ b, f k = b := ⟨_, rfl⟩
      rw [hb] at xV
      cases b with
      | true =>
        have hN : Hid (lst f (k + 1) = lst f k ++ [(k : Int)]) := by show _ = _; rw [hmore.out, if_pos hb]
        clear hmore hb
        generalize lst f k = L at *
        go_wp2_with (first
          | (at_builtin; (refine wpList_app1 rfl (.tmp 12) (.tmp 14) 23 rfl w.heap.size 3 iN _ 1 8 Tryd.underlying23 hiN hzN hsN hbN rfl (by decide) va vc (L.map chCells) (by rw [List.length_map]; rfl) hs.out.ow (chCells (k : Int)) rfl rfl (one1u _) (by rw [List.length_map]; unfold maxLen; omega) (by rw [List.length_map]; omega) hs.out.be.size ?_); intro va' vc' w2 hg; rw [List.length_map]; (have hg2 : Hid (LsS w (L ++ [(k : Int)]) va' vc' w2) := hs.out.grown hg); clear hg))
        go_roundw
        case rel => exact ⟨k + 1, va', vc', by omega, by go_num, by rw [hN.out, List.length_append]; rfl, by rw [hN.out]; exact hg2⟩
        case measure => simp [intOf]; omega
      | false =>
        have hN : Hid (lst f (k + 1) = lst f k) := by show _ = _; rw [hmore.out, if_neg (by rw [hb]; exact Bool.false_ne_true), List.append_nil]
        clear hmore hb
        go_wp2
        go_roundw
        case rel => exact ⟨k + 1, va, vc, by omega, by go_num, by rw [hN.out], by rw [hN.out]; exact hs⟩
        case measure => simp [intOf]; omega
    · have hk2 : k = 64 := by omega
      subst hk2
      go_wp2
      go_ret
      exact ⟨va, vc, rfl, hs.out⟩
theorem infoB_some : ∃ i, Tryd.prog.info? 4 = some i := by
  have h : (Tryd.prog.info? 4).isSome = true := by kernel_rfl
  exact Option.isSome_iff_exists.mp h
theorem eqS_one (a b : Bool) (w : World) : (Op.equalIn 9999 4 (.bool a) (.bool b)).run Tryd.prog w = .ok (a == b) w := by
  have ub := Tryd.underlying4
  go_simp
theorem eqS_part (q : Nat → Bool) (i : Nat) (hi : i < 64) (w : World) : (part 4 (boolRow 64 q) (i * 1)).run Tryd.prog w = .ok (.bool (q i)) w := by
  have a1 := Tryd.isAgg4
  rw [Nat.mul_one]
  unfold part
  simp only [Sem.run_bind, a1, Result.andThen_ok]
  simp [boolRow_at hi]
theorem run_eqS (f g : Nat → Bool) (w : World) : ∀ is : List Nat, (∀ i ∈ is, i < 64) → (Op.eqItems 9999 4 1 (boolRow 64 f) (boolRow 64 g) is).run Tryd.prog w = .ok (is.all fun k => f k == g k) w
  | [], _ => by rw [Op.eqItems]; rfl
  | i :: is, h => by
    have ih := run_eqS f g w is fun k hk => h k (by simp [hk])
    have hi := h i (by simp)
    rw [Op.eqItems]
    simp only [Sem.run_bind, eqS_part _ _ hi, eqS_one, Result.andThen_ok, List.all_cons]
    cases hq : (f i == g i)
    · rfl
    · simp only [Bool.not_true, Bool.false_eq_true, if_false, Bool.true_and]
      exact ih
theorem eqS_run (f g : Nat → Bool) (w : World) : (binOp .eql 65 (.agg (boolRow 64 f)) (.agg (boolRow 64 g))).run Tryd.prog w = .ok (.bool ((List.range 64).all fun k => f k == g k)) w := by
  obtain ⟨i, hi⟩ := infoB_some
  have hc1 : Tryd.prog.cellsOf 4 = 1 := by kernel_rfl
  have h : (Op.equalIn 10000 65 (.agg (boolRow 64 f)) (.agg (boolRow 64 g))).run Tryd.prog w = .ok ((List.range 64).all fun k => f k == g k) w := by
    rw [show (10000 : Nat) = 9999 + 1 from rfl, run_equalIn_array w 9999 _ _ Tryd.underlying65 hi, hc1]
    exact run_eqS f g w _ fun k hk => List.mem_range.mp hk
  rw [run_eql_struct, h]; rfl
end Go.Proofs.YtlcljdldhajkiaaDoor.pg
