/- The lock of an event: on both sides. -/
import Derived.Test.YtdfnmlcpimiboaaM8
import Derived.Test.YtdfnmlcpimiboaaM5
import Derived.RangeFuncNested
import Derived.RangeFuncBound
import Derived.RangeFuncCalls
import Derived.RangeFuncLeaves
import Derived.OwnWalkIn
import Derived.TacticsInMore
import Derived.LoopNIn
import Derived.LoopIn
import Derived.OrdersIn
namespace Go.Proofs.Ytdfnmlcpimiboaa.pg
open Go.ChangeShapes Go.WideShapes Go.ChangeAt Go.RowKit
set_option linter.unusedVariables false
set_option linter.unusedSimpArgs false
set_option maxRecDepth 100000
attribute [local go_sem ↓] Go.wp_at_zero Go.wp_at_succ
theorem of_list {x : Ev} (h1 : 1 ≤ x.n) (h2 : x.n ≤ 6) : ((x.of.length : Nat) : Int) = x.n ∧ x.of.length ≤ 6 := by
  have := tN_eq h1 h2
  have hl : x.of.length = tN x.n := by unfold Ev.of; rw [List.length_take]; have := tN_le x.n; show min _ 6 = _; omega
  rw [hl]
  exact ⟨this, tN_le x.n⟩
set_option maxHeartbeats 4000000 in
theorem rlock_any (x : Ev) (w : World) (h1 : 1 ≤ x.n) (h2 : x.n ≤ 6) : Calls Try.prog 46 #[.agg x.cells.toArray] w fun e w' => e = .returned (.int .i64 (lkN x)) ∧ Below w.heap.size w w' := by
  have bxH : Hid (BoxE (w.alloc (objE x)) w.heap.size x ∧ Below w.heap.size w (w.alloc (objE x))) := ⟨boxE_new w x, boxed _ _⟩
  obtain ⟨hn, h6⟩ := of_list h1 h2
  have hnI : (x.of.length : Int) ≤ 6 := by omega
  have hnH : Hid (x.n = (x.of.length : Int)) := hn.symm
  go_enter Try.func46, Try.ntmps46
  go_upto_region 1 with fail
  change Code.wp _ _ _ _ (w.alloc (objE x))
  generalize w.alloc (objE x) = W at *
  clear hn h1 h2
  go_wp2_with fail
  go_loopw [3] (fun u wr => ∃ k : Nat, k ≤ x.of.length ∧ u = .int .i64 (k : Int) ∧ Hid (∀ b ∈ x.of.take k, b.kind ≠ 2) ∧ wr = W) (fun u _ => x.of.length - (intOf u).toNat)
  case atStart => exact ⟨0, Nat.zero_le _, rfl, fun b hb => by simp at hb, rfl⟩
  case round =>
    obtain ⟨k, hk, rfl, hst, rfl⟩ := hrel
    have c25 : wr.cell? ⟨w.heap.size, 25, none⟩ = some (.int .i64 (x.of.length : Int)) := by
      rw [← hnH.out]
      exact bxH.out.1.at 25 _ rfl
    by_cases hlt : k < x.of.length
    · have hkI : (k : Int) < x.of.length := by omega
      obtain ⟨a, ha, ham⟩ := get_lt x.of k hlt
      have hlist : x.list[k]? = some a := by
        unfold Ev.of at ha
        rw [List.getElem?_take] at ha
        split at ha
        · exact ha
        · cases ha
      obtain ⟨hix, k0, k1, _⟩ := ev_ix bxH.out.1 k a hlist
      by_cases e : a.kind = 2
      · have eb : (a.kind == 2) = true := by rw [e]; rfl
        have hL : Hid (lkN x = a.num) := by
          show _ = _
          have : lkO x = some a := find_at hst.out ha e
          unfold lkN
          rw [this]
        clear ha hlist e
        go_wp2
        go_ret
        exact ⟨by (rw [hL.out]; rfl), bxH.out.2⟩
      · have eb : (a.kind == 2) = false := by rw [beq_eq_false_iff_ne]; exact e
        have hs2 : Hid (∀ b ∈ x.of.take (k + 1), b.kind ≠ 2) := fun b hb => by
          rw [take_one x.of k a ha, List.mem_append, List.mem_singleton] at hb
          rcases hb with hb | rfl
          · exact hst.out b hb
          · exact e
        clear ha hlist e hst
        go_wp2
        go_roundw
        case rel => exact ⟨k + 1, by omega, by go_num, hs2, trivial⟩
        case measure => simp [intOf]; omega
    · have hke : k = x.of.length := by omega
      have hkI : ¬ (k : Int) < x.of.length := by omega
      have hL : Hid (lkN x = -1) := by
        show _ = _
        have : lkO x = none := find_not (by have := hst.out; rw [hke, List.take_length] at this; exact this)
        unfold lkN
        rw [this]
      go_wp2
      go_ret
      exact ⟨by (rw [hL.out]; rfl), bxH.out.2⟩
set_option maxHeartbeats 4000000 in
theorem lockOf_any (x : Ev) (w : World) (h1 : 1 ≤ x.n) (h2 : x.n ≤ 6) : Calls Try.prog 45 #[.agg x.cells.toArray] w fun e w' => e = .returned (.tuple #[.int .i64 (if lkO x = none then 0 else lkN x), .bool (lkO x).isSome]) ∧ Below w.heap.size w w' := by
  have bxH : Hid (BoxE (w.alloc (objE x)) w.heap.size x ∧ Below w.heap.size w (w.alloc (objE x))) := ⟨boxE_new w x, boxed _ _⟩
  obtain ⟨hn, h6⟩ := of_list h1 h2
  have hnI : (x.of.length : Int) ≤ 6 := by omega
  have hR : Hid (Rows (w.alloc (objE x)) 3 (some ⟨w.heap.size, 7, none⟩) 6 (x.of.map Acc.cells)) := rowsE bxH.out.1
  have hsl := (slice_two w.heap.size x.of.length (by omega) h6).1
  have c25 : (w.alloc (objE x)).cell? ⟨w.heap.size, 25, none⟩ = some (.int .i64 (x.of.length : Int)) := by
    rw [hn]
    exact bxH.out.1.at 25 _ rfl
  obtain ⟨n9, hn9⟩ : ∃ n9, (if lkO x = none then 0 else lkN x) = n9 := ⟨_, rfl⟩
  obtain ⟨b9, hb9⟩ : ∃ b9, (lkO x).isSome = b9 := ⟨_, rfl⟩
  have h9H : Hid ((if lkO x = none then 0 else lkN x) = n9 ∧ (lkO x).isSome = b9) := ⟨hn9, hb9⟩
  rw [hn9, hb9]
  clear hn9 hb9
  go_enter Try.func45, Try.ntmps45
  go_upto_region 1 with fail
  change Code.wp _ _ _ _ (w.alloc (objE x))
  generalize w.alloc (objE x) = W at *
  clear hn h1 h2
  go_wp2_with fail
  go_loopw [11] (fun u wr => ∃ k : Nat, k ≤ x.of.length ∧ u = .int .i64 (k : Int) ∧ Hid (∀ b ∈ x.of.take k, b.kind ≠ 2) ∧ Hid (Below W.heap.size W wr)) (fun u _ => x.of.length - (intOf u).toNat)
  case atStart => exact ⟨0, Nat.zero_le _, rfl, fun b hb => by simp at hb, Below.refl _ _⟩
  case round =>
    obtain ⟨k, hk, rfl, hst, hbr⟩ := hrel
    clear c25 hsl
    by_cases hlt : k < x.of.length
    · have hkI : (k : Int) < x.of.length := by omega
      obtain ⟨a, ha, ham⟩ := get_lt x.of k hlt
      obtain ⟨b1, o1, hix, _, k0, k1, k2⟩ := acc_ix (hR.out.later hbr.out) k a ha
      by_cases e : a.kind = 2
      · have eb : (a.kind == 2) = true := by rw [e]; rfl
        have hL : Hid (lkO x = some a) := find_at hst.out ha e
        clear ha e
        go_wp2
        go_ret2
        exact ⟨by (rw [← h9H.out.1, ← h9H.out.2]; unfold lkN; rw [hL.out]; rfl), bthen bxH.out.2 (bthen hbr.out (boxed _ _))⟩
      · have eb : (a.kind == 2) = false := by rw [beq_eq_false_iff_ne]; exact e
        have hs2 : Hid (∀ b ∈ x.of.take (k + 1), b.kind ≠ 2) := fun b hb => by
          rw [take_one x.of k a ha, List.mem_append, List.mem_singleton] at hb
          rcases hb with hb | rfl
          · exact hst.out b hb
          · exact e
        clear ha e hst
        go_wp2
        go_roundw
        case rel => exact ⟨k + 1, by omega, by go_num, hs2, bthen hbr.out (boxed _ _)⟩
        case measure => simp [intOf]; omega
    · have hke : k = x.of.length := by omega
      have hkI : ¬ (k : Int) < x.of.length := by omega
      have hL : Hid (lkO x = none) := find_not (by have := hst.out; rw [hke, List.take_length] at this; exact this)
      go_wp2
      go_ret2
      exact ⟨by (rw [← h9H.out.1, ← h9H.out.2, hL.out]; rfl), bthen bxH.out.2 hbr.out⟩
end Go.Proofs.Ytdfnmlcpimiboaa.pg
/- A region that draws its order, in the body of a loop over an iterator: what is shown of it outside holds there. -/
namespace Go.Proofs.Ytdfnmlcpimiboaa.pg
open Go.ChangeShapes Go.WideShapes Go.ChangeAt Go.RowKit
set_option linter.unusedVariables false
set_option linter.unusedSimpArgs false
section
variable {P : Program} {ops : Array Oper} {Q : Exit → Act → World → Prop} {l n : Nat}
/-- No operation that defers a call. -/
def noDefer (ops : Array Oper) : Bool := ops.all fun o => match o.op with
  | .defer _ => false
  | _ => true
theorem noDefer_at {i : Nat} {o : Oper} (h : noDefer ops = true) (ho : ops[i]? = some o) (c : Call) : o.op ≠ .defer c := by
  intro e
  unfold noDefer at h
  rw [Array.all_eq_true] at h
  obtain ⟨hi, hx⟩ := Array.getElem?_eq_some_iff.mp ho
  have := h i hi
  rw [hx, e] at this
  simp at this
theorem wide_room (k : Nat) : (Fence.wide.inRound l).room k := fun d h => by simp [Fence.wide, Fence.inRound] at h
theorem wide_depth : (Fence.wide.inRound l).depth.isSome = true → 1 ≤ n := fun h => by simp [Fence.wide, Fence.inRound] at h
theorem op_round {o : Oper} {a : Act} {w : World} {K : Act → World → Prop} (hd : ∀ c, o.op ≠ .defer c) (h : o.wp P a w K Q) : o.wpIn (Fence.wide.inRound l) n P a w K Q := by
  unfold Oper.wp at h
  unfold Oper.wpIn
  refine ⟨fun f _ => trivial, ?_⟩
  rw [Fence.inRound_round, Oper.semAt_some l _ _ hd]
  generalize (execOp a.eval o).run P w = r at *
  cases r with
  | ok x w' =>
    cases x <;> simp only [Oper.upon, Oper.uponIn] at h ⊢ <;> first
      | exact h
      | exact ⟨wide_depth, CallsIn.inRound l (callsIn_wide.2 h)⟩
      | exact ⟨wide_depth, fun c cs _ => let ⟨v, w', r, s⟩ := h c cs; ⟨v, w', r, stepsIn_wide.2 s⟩⟩
  | halt x w' => cases x <;> simp only [Oper.upon, Oper.uponIn] at h ⊢ <;> exact h
theorem any_round {md : Region.Mode} (hd : noDefer ops = true) (hno : ¬ LetsOut Q) : ∀ (fuel : Nat) (listed : Array Bool) (a : Act) (w : World), wpAny P md ops Q fuel listed a w → wpAnyIn (Fence.wide.inRound l) n P md ops Q fuel listed a w
  | 0, _, _, _, h => h
  | fuel + 1, listed, a, w, h => ⟨h.1, fun i hi => by
    have h2 := h.2 i hi
    unfold wpOp at h2
    unfold wpOpIn
    cases ho : ops[i]? with
    | none =>
      simp only [ho] at h2
      exact any_round hd hno fuel _ a w h2
    | some o =>
      simp only [ho] at h2
      by_cases hw : Region.wanted o (yielded ops a.tmps) = true
      · simp only [hw, if_true] at h2 ⊢
        rcases h2 with h2 | h2
        · exact op_round (noDefer_at hd ho) (Oper.wp_mono (fun a' w' h' => any_round hd hno fuel _ a' w' h') h2)
        · exact (hno h2.2).elim
      · simp only [hw] at h2 ⊢
        exact ⟨fun f _ => trivial, any_round hd hno fuel _ _ w h2⟩⟩
theorem wpR_any {id : Nat} {a : Act} {w : World} (hm : P.follows .mixedOrders = true) (hd : noDefer ops = true) (hno : ¬ LetsOut Q)
    (h : wpAny P .any ops Q ops.size (Array.replicate ops.size false) a { w with drawn := w.drawn + 1 }) : (Code.region id ops true).wpIn (Fence.wide.inRound l) n P Q a w :=
  wpIn_region_any hm (any_round hd hno _ _ _ _ h)
/-- Walked once in the order of its text, in every world of a class. -/
theorem wpR_cls (S : World → Prop) {id : Nat} {a : Act} {w : World} {L : List Oper} (hm : P.follows .mixedOrders = true) (hB : Region.lexB .any L.toArray = true) (hd : noDefer L.toArray = true) (hno : ¬ LetsOut Q) (hS : S w.drew)
    (h : wpQuiet P L.toArray (fun w' => ∃ s : Cls S, w' = s.w) (fun a' => ∀ w', (∃ s : Cls S, w' = s.w) → Q .normal a' w') L a) : (Code.region id L.toArray true).wpIn (Fence.wide.inRound l) n P Q a w := by
  simp only [Region.lexB, Bool.and_eq_true] at hB
  refine wpR_any hm hd hno (wpAny_of_quiet (C := fun w' => ∃ s : Cls S, w' = s.w) (Q := fun a' => ∀ w', (∃ s : Cls S, w' = s.w) → Q .normal a' w') (fun _ w' hw' h => h w' hw') _ _ _ _ ⟨⟨_, hS⟩, rfl⟩ ?_)
  have := wpAnyQ_lex (C := fun w' => ∃ s : Cls S, w' = s.w) (md := .any) hB.1 L 0 (Array.replicate L.toArray.size false) a (by simp) (by simpa using hB.2) h
  simpa using this
/-- Walked by hand, a condition on the world held. -/
theorem wpR_held (S : World → Prop) {id : Nat} {a : Act} {w : World} (hm : P.follows .mixedOrders = true) (hd : noDefer ops = true) (hno : ¬ LetsOut Q)
    (h : wpAnyH P .any ops Q S ops.size (Array.replicate ops.size false) a w.drew) : (Code.region id ops true).wpIn (Fence.wide.inRound l) n P Q a w :=
  wpR_any hm hd hno (wpAny_of_held _ _ _ _ h)
end
end Go.Proofs.Ytdfnmlcpimiboaa.pg
/- Whether events are a trace, by package depend. -/
namespace Go.Proofs.Ytdfnmlcpimiboaa.pg
open Go.ChangeShapes Go.WideShapes Go.ChangeAt Go.RowKit
set_option linter.unusedVariables false
set_option linter.unusedSimpArgs false
set_option maxRecDepth 100000
attribute [local go_sem ↓] Go.wp_at_zero Go.wp_at_succ
/-- What is wrong with events, if they are no trace. -/
def checkP (l : List Ev) (c : Int) : Prop := (256 < l.length ∧ c = 2) ∨ (l.length ≤ 256 ∧ (∃ x ∈ l, ¬ rightP x) ∧ c = 7) ∨ (l.length ≤ 256 ∧ (∀ x ∈ l, rightP x) ∧ c = 0)
theorem check_ex (l : List Ev) : ∃ c, checkP l c := by
  by_cases h : 256 < l.length
  · exact ⟨2, .inl ⟨h, rfl⟩⟩
  · by_cases g : ∃ x ∈ l, ¬ rightP x
    · exact ⟨7, .inr (.inl ⟨by omega, g, rfl⟩)⟩
    · exact ⟨0, .inr (.inr ⟨by omega, fun x hx => Classical.byContradiction fun q => g ⟨x, hx, q⟩, rfl⟩)⟩
theorem ev_row {w : World} {a : Option Addr} {cap : Nat} {l : List Ev} (h : Rows w 26 a cap (l.map Ev.cells)) (i : Nat) (x : Ev) (hi : l[i]? = some x) :
    ∃ b o, (∀ wx, (Instr.indexAt 22 (.slice a l.length cap) (.int .i64 (i : Int))).run Try.prog wx = .ok (.pointer (some ⟨b, o, none⟩)) wx) ∧ b < w.heap.size ∧ w.rangeAt b o x.cells := by
  obtain ⟨b, o, hr, hlt, hc⟩ := h.ix 22 55 Try.underlying22 (by kernel_rfl) (fun wx => Try.sizeOf55 wx) i (row := x.cells) (by simp [hi])
  rw [List.length_map] at hr
  exact ⟨b, o, hr, hlt, hc⟩
theorem infoE26 : (Try.prog.info? 55).map (·.size) = some 26 := by kernel_rfl
set_option maxHeartbeats 1000000 in
theorem check_any (l : List Ev) (la : Option Addr) (lc : Nat) (w : World) (hl : Rows w 26 la lc (l.map Ev.cells)) (c : Int) (hc : Hid (checkP l c)) : Calls Try.prog 24 #[.slice la l.length lc] w fun e w' => e = .returned (.int .i64 c) ∧ Below w.heap.size w w' := by
  have hlI := rows_len hl
  have hlH : Hid (Rows w 26 la lc (l.map Ev.cells)) := hl
  clear hl
  by_cases hlong : 256 < l.length
  · have hcc : c = 2 := by rcases hc.out with ⟨_, q⟩ | ⟨q, _⟩ | ⟨q, _⟩ <;> omega
    have hI : (256 : Int) < l.length := by omega
    subst hcc
    go_enter Try.func24, Try.ntmps24
    go_wp2
    go_ret
    exact ⟨rfl, Below.refl _ _⟩
  · have hI : ¬ (256 : Int) < l.length := by omega
    have huH : Hid (Try.prog.underlying 55 = _) := Try.underlying55
    have hiH : Hid ((Try.prog.info? 55).map (·.size) = some 26) := infoE26
    go_enter Try.func24, Try.ntmps24
    go_wp2
    go_loopw [10] (fun u wr => ∃ k : Nat, k ≤ l.length ∧ u = .int .i64 k ∧ Below w.heap.size w wr ∧ Hid (∀ x ∈ l.take k, rightP x)) (fun u _ => l.length - (intOf u).toNat)
    case atStart => exact ⟨0, Nat.zero_le _, rfl, Below.refl _ _, fun x hx => by simp at hx⟩
    case round =>
      obtain ⟨k, hk, rfl, hb2, hok⟩ := hrel
      by_cases hlt : k < l.length
      · obtain ⟨x, hx, hxm⟩ := get_lt l k hlt
        obtain ⟨b0, o0, hix, hbl, hrg⟩ := ev_row (hlH.out.later hb2) k x hx
        have hrH : Hid (wr.rangeAt b0 o0 x.cells) := hrg
        have hkI : (k : Int) < l.length := by omega
        have hbx : Hid ((wr.alloc (objE x)).rangeAt wr.heap.size 0 x.cells) := (boxE_new wr x).range
        clear hrg
        by_cases e : rightP x
        · have c1 : ∀ wx, Calls Try.prog 44 #[.agg x.cells.toArray] wx _ := fun wx => right_any x wx true ⟨fun _ => e, fun _ => rfl⟩
          have hok2 : Hid (∀ x ∈ l.take (k + 1), rightP x) := fun z hz => by
            rw [take_one l k x hx, List.mem_append, List.mem_singleton] at hz
            rcases hz with hz | rfl
            · exact hok.out z hz
            · exact e
          clear e
          go_wp2_with (first
            | (refine wpList_load_mid rfl 55 _ rfl b0 o0 rfl x.cells _ hrH.out huH.out rfl hiH.out ?_)
            | (refine wpList_store_new rfl 55 _ _ rfl rfl _ x.cells.toArray rfl (by kernel_rfl) rfl (ev_one x) ?_)
            | (refine wpList_load_mid rfl 55 _ rfl wr.heap.size 0 rfl x.cells _ hbx.out huH.out rfl hiH.out ?_)
            | (go_at_call 44; (with_reducible refine (c1 _).mono ?_); rintro e w1 ⟨rfl, hb1⟩))
          go_roundw
          case rel => exact ⟨k + 1, by omega, by go_num, bthen hb2 (bthen (boxed _ (objE x)) hb1), hok2⟩
          case measure => simp [intOf]; omega
        · have c1 : ∀ wx, Calls Try.prog 44 #[.agg x.cells.toArray] wx _ := fun wx => right_any x wx false ⟨(fun q => by cases q), fun q => absurd q e⟩
          have hcc : Hid (c = 7) := by
            rcases hc.out with ⟨q, _⟩ | ⟨_, _, q⟩ | ⟨_, q, _⟩
            · omega
            · exact q
            · exact absurd (q x hxm) e
          clear e
          go_wp2_with (first
            | (refine wpList_load_mid rfl 55 _ rfl b0 o0 rfl x.cells _ hrH.out huH.out rfl hiH.out ?_)
            | (refine wpList_store_new rfl 55 _ _ rfl rfl _ x.cells.toArray rfl (by kernel_rfl) rfl (ev_one x) ?_)
            | (refine wpList_load_mid rfl 55 _ rfl wr.heap.size 0 rfl x.cells _ hbx.out huH.out rfl hiH.out ?_)
            | (go_at_call 44; (with_reducible refine (c1 _).mono ?_); rintro e w1 ⟨rfl, hb1⟩))
          go_ret
          exact ⟨by rw [hcc.out]; rfl, bthen hb2 (bthen (boxed _ (objE x)) hb1)⟩
      · have hk2 : k = l.length := by omega
        subst hk2
        rw [List.take_length] at hok
        have hcc : Hid (c = 0) := by
          rcases hc.out with ⟨q, _⟩ | ⟨_, ⟨x, hx, q⟩, _⟩ | ⟨_, _, q⟩
          · omega
          · exact absurd (hok.out x hx) q
          · exact q
        go_wp2
        go_ret
        exact ⟨by rw [hcc.out]; rfl, hb2⟩
end Go.Proofs.Ytdfnmlcpimiboaa.pg
