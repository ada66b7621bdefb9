/- Whether events are a trace, by package depend. -/
import Derived.Test.YtkadlopcomjonaaM10
import Derived.Test.YtkadlopcomjonaaM4
import Derived.Shelf.Abstract
import Derived.WalkKit
import Derived.Test.YtkadlopcomjonaaM3
import Derived.Test.YtkadlopcomjonaaM5
import Derived.Laws.StructEq
namespace Go.Proofs.Ytkadlopcomjonaa.pg
open Go.ChangeShapes Go.WideShapes Go.ChangeAt Go.RowKit
set_option linter.unusedVariables false
set_option linter.unusedSimpArgs false
set_option maxRecDepth 100000
attribute [local go_sem ↓] Go.wp_at_zero Go.wp_at_succ
/-- What is wrong with events, if they are no trace. -/
def checkP (l : List Ev) (c : Int) : Prop := (256 < l.length ∧ c = 2) ∨ (l.length ≤ 256 ∧ (∃ x ∈ l, ¬ rightP x) ∧ c = 7) ∨ (l.length ≤ 256 ∧ (∀ x ∈ l, rightP x) ∧ c = 0)
theorem check_ex (l : List Ev) : ∃ c, checkP l c := by
  by_cases h : 256 < l.length
  · exact ⟨2, .inl ⟨h, rfl⟩⟩
  · by_cases g : ∃ x ∈ l, ¬ rightP x
    · exact ⟨7, .inr (.inl ⟨by omega, g, rfl⟩)⟩
    · exact ⟨0, .inr (.inr ⟨by omega, fun x hx => Classical.byContradiction fun q => g ⟨x, hx, q⟩, rfl⟩)⟩
theorem ev_row {w : World} {a : Option Addr} {cap : Nat} {l : List Ev} (h : Rows w 26 a cap (l.map Ev.cells)) (i : Nat) (x : Ev) (hi : l[i]? = some x) :
    ∃ b o, (∀ wx, (Instr.indexAt 22 (.slice a l.length cap) (.int .i64 (i : Int))).run Try.prog wx = .ok (.pointer (some ⟨b, o, none⟩)) wx) ∧ b < w.heap.size ∧ w.rangeAt b o x.cells := by
  obtain ⟨b, o, hr, hlt, hc⟩ := h.ix 22 70 Try.underlying22 (by kernel_rfl) (fun wx => Try.sizeOf70 wx) i (row := x.cells) (by simp [hi])
  rw [List.length_map] at hr
  exact ⟨b, o, hr, hlt, hc⟩
theorem infoE26 : (Try.prog.info? 70).map (·.size) = some 26 := by kernel_rfl
set_option maxHeartbeats 1000000 in
theorem check_any (l : List Ev) (la : Option Addr) (lc : Nat) (w : World) (hl : Rows w 26 la lc (l.map Ev.cells)) (c : Int) (hc : Hid (checkP l c)) : Calls Try.prog 10 #[.slice la l.length lc] w fun e w' => e = .returned (.int .i64 c) ∧ Below w.heap.size w w' := by
  have hlI := rows_len hl
  have hlH : Hid (Rows w 26 la lc (l.map Ev.cells)) := hl
  clear hl
  by_cases hlong : 256 < l.length
  · have hcc : c = 2 := by rcases hc.out with ⟨_, q⟩ | ⟨q, _⟩ | ⟨q, _⟩ <;> omega
    have hI : (256 : Int) < l.length := by omega
    subst hcc
    go_enter Try.func10, Try.ntmps10
    go_wp2
    go_ret
    exact ⟨rfl, Below.refl _ _⟩
  · have hI : ¬ (256 : Int) < l.length := by omega
    have huH : Hid (Try.prog.underlying 70 = _) := Try.underlying70
    have hiH : Hid ((Try.prog.info? 70).map (·.size) = some 26) := infoE26
    go_enter Try.func10, Try.ntmps10
    go_wp2
    go_loopw [10] (fun u wr => ∃ k : Nat, k ≤ l.length ∧ u = .int .i64 k ∧ Below w.heap.size w wr ∧ Hid (∀ x ∈ l.take k, rightP x)) (fun u _ => l.length - (intOf u).toNat)
    case atStart => exact ⟨0, Nat.zero_le _, rfl, Below.refl _ _, fun x hx => by simp at hx⟩
    case round =>
      obtain ⟨k, hk, rfl, hb2, hok⟩ := hrel
      by_cases hlt : k < l.length
      · obtain ⟨x, hx, hxm⟩ := get_lt l k hlt
        obtain ⟨b0, o0, hix, hbl, hrg⟩ := ev_row (hlH.out.later hb2) k x hx
        have hrH : Hid (wr.rangeAt b0 o0 x.cells) := hrg
        have hkI : (k : Int) < l.length := by omega
        have hbx : Hid ((wr.alloc (objE x)).rangeAt wr.heap.size 0 x.cells) := (boxE_new wr x).range
        clear hrg
        by_cases e : rightP x
        · have c1 : ∀ wx, Calls Try.prog 34 #[.agg x.cells.toArray] wx _ := fun wx => right_any x wx true ⟨fun _ => e, fun _ => rfl⟩
          have hok2 : Hid (∀ x ∈ l.take (k + 1), rightP x) := fun z hz => by
            rw [take_one l k x hx, List.mem_append, List.mem_singleton] at hz
            rcases hz with hz | rfl
            · exact hok.out z hz
            · exact e
          clear e
          go_wp2_with (first
            | (refine wpList_load_mid rfl 70 _ rfl b0 o0 rfl x.cells _ hrH.out huH.out rfl hiH.out ?_)
            | (refine wpList_store_new rfl 70 _ _ rfl rfl _ x.cells.toArray rfl (by kernel_rfl) rfl (ev_one x) ?_)
            | (refine wpList_load_mid rfl 70 _ rfl wr.heap.size 0 rfl x.cells _ hbx.out huH.out rfl hiH.out ?_)
            | (go_at_call 34; (with_reducible refine (c1 _).mono ?_); rintro e w1 ⟨rfl, hb1⟩))
          go_roundw
          case rel => exact ⟨k + 1, by omega, by go_num, bthen hb2 (bthen (boxed _ (objE x)) hb1), hok2⟩
          case measure => simp [intOf]; omega
        · have c1 : ∀ wx, Calls Try.prog 34 #[.agg x.cells.toArray] wx _ := fun wx => right_any x wx false ⟨(fun q => by cases q), fun q => absurd q e⟩
          have hcc : Hid (c = 7) := by
            rcases hc.out with ⟨q, _⟩ | ⟨_, _, q⟩ | ⟨_, q, _⟩
            · omega
            · exact q
            · exact absurd (q x hxm) e
          clear e
          go_wp2_with (first
            | (refine wpList_load_mid rfl 70 _ rfl b0 o0 rfl x.cells _ hrH.out huH.out rfl hiH.out ?_)
            | (refine wpList_store_new rfl 70 _ _ rfl rfl _ x.cells.toArray rfl (by kernel_rfl) rfl (ev_one x) ?_)
            | (refine wpList_load_mid rfl 70 _ rfl wr.heap.size 0 rfl x.cells _ hbx.out huH.out rfl hiH.out ?_)
            | (go_at_call 34; (with_reducible refine (c1 _).mono ?_); rintro e w1 ⟨rfl, hb1⟩))
          go_ret
          exact ⟨by rw [hcc.out]; rfl, bthen hb2 (bthen (boxed _ (objE x)) hb1)⟩
      · have hk2 : k = l.length := by omega
        subst hk2
        rw [List.take_length] at hok
        have hcc : Hid (c = 0) := by
          rcases hc.out with ⟨q, _⟩ | ⟨_, ⟨x, hx, q⟩, _⟩ | ⟨_, _, q⟩
          · omega
          · exact absurd (hok.out x hx) q
          · exact q
        go_wp2
        go_ret
        exact ⟨by rw [hcc.out]; rfl, hb2⟩
end Go.Proofs.Ytkadlopcomjonaa.pg
/- slices.Backward of events: a contract for whatever loop stands over it. -/
namespace Go.Proofs.Ytkadlopcomjonaa.pg
open Go.ChangeShapes Go.WideShapes Go.ChangeAt Go.RowKit Go.Shelf
set_option linter.unusedVariables false
set_option linter.unusedSimpArgs false
set_option maxRecDepth 100000
attribute [local go_sem] Oper.semAt_some
/-- A load of many cells at once, inside a fence. -/
theorem inF_load_mid {F : Fence} {n : Nat} {P : Program} {ops : Array Oper} {rest : List Oper} {op : Oper} {a : Act} {w : World} {Q : Exit → Act → World → Prop} (hgd : op.guard = none) (ty : TypeId) (x : Operand) (ho : op.op = .load ty x)
    (b o : Nat) (hx : a.eval x = .pointer (some ⟨b, o, none⟩)) (cs : List Value) (d : TypeDesc) (hc : w.rangeAt b o cs)
    (hu : P.underlying ty = some d) (hd : d.isRow = true) (hi : (P.info? ty).map (·.size) = some cs.length)
    (h : wpListIn F n P ops Q rest (a.put op.dst (.agg cs.toArray)) w) : wpListIn F n P ops Q (op :: rest) a w :=
  wpListIn_plain hgd fun K hK => by
    refine ⟨fun f hf => ?_, ?_⟩
    · simp [Oper.about, ho] at hf
    · rw [Oper.semAt_plain F _ _ (by simp [ho])]
      unfold execOp
      simp only [ho, hx, Instr.loadAt, Instr.sureAddr, Sem.run_bind, Sem.run_pure, Result.andThen_ok, run_loadVar_mid w b o ty cs d hc hu hd hi]
      exact hK _ _ h
/-- The first k of the places below j, from the last one down. -/
def dn (j : Nat) : Nat → List { i : Nat // i < j }
  | 0 => []
  | k + 1 => if h : k < j then dn j k ++ [⟨j - 1 - k, by omega⟩] else dn j k
theorem dn_more {j k : Nat} (h : k < j) : dn j (k + 1) = dn j k ++ [⟨j - 1 - k, by omega⟩] := by rw [dn, dif_pos h]
theorem dn_len {j : Nat} : ∀ {k : Nat}, k ≤ j → (dn j k).length = k
  | 0, _ => rfl
  | k + 1, h => by rw [dn_more (by omega), List.length_append, dn_len (by omega), List.length_singleton]
/-- What a round keeps: what lay below n₀, and the iterator's own box. -/
def Keeps (n₀ Bs : Nat) (W W' : World) : Prop := Below n₀ W W' ∧ W'.heap[Bs]? = W.heap[Bs]?
theorem Keeps.trans {n₀ Bs : Nat} {A B C : World} (h : Keeps n₀ Bs A B) (k : Keeps n₀ Bs B C) : Keeps n₀ Bs A C := ⟨h.1.trans k.1, k.2.trans h.2⟩
theorem Keeps.refl (n₀ Bs : Nat) (W : World) : Keeps n₀ Bs W W := ⟨Below.refl _ _, rfl⟩
/-- The events, each at its place below n₀. -/
def EvAt (n₀ : Nat) (W : World) (a : Option Addr) (j cap : Nat) (ev : Nat → Ev) : Prop := ∀ i, i < j → ∃ b o, (∀ wx, (Instr.indexAt 22 (.slice a j cap) (.int .i64 (i : Int))).run Try.prog wx = .ok (.pointer (some ⟨b, o, none⟩)) wx) ∧ b < n₀ ∧ W.rangeAt b o (ev i).cells
theorem EvAt.below {n₀ : Nat} {W W' : World} {a : Option Addr} {j cap : Nat} {ev : Nat → Ev} (h : EvAt n₀ W a j cap ev) (hb : Below n₀ W W') : EvAt n₀ W' a j cap ev := fun i hi => by
  obtain ⟨b, o, h1, h2, h3⟩ := h i hi
  exact ⟨b, o, h1, h2, fun q v hv => (hb.cell (p := ⟨b, o + q, none⟩) h2).trans (h3 q v hv)⟩
set_option maxHeartbeats 2000000 in
theorem back1_in (F : Fence) (n : Nat) (hf : F.fn 110) (hro : F.round = none) (hn : 1 ≤ n) (lp Bs n₀ j cap : Nat) (a : Option Addr) (ev : Nat → Ev) (hj : j ≤ 256) (J Jx : List { i : Nat // i < j } → World → Prop)
    (hY : ∀ pre x W, J pre W → pre.length < j → YieldAt F (n - 1) Try.prog lp #[.int .i64 (x.1 : Int), .agg (ev x.1).cells.toArray] W fun e W' =>
      (e = .returned (.bool true) ∧ J (pre ++ [x]) W' ∧ Keeps n₀ Bs W W') ∨ (e = .returned (.bool false) ∧ Jx (pre ++ [x]) W'))
    (W : World) (hBs : W.heap[Bs]? = some (.cells #[.slice a j cap] 22)) (hc : EvAt n₀ W a j cap ev) (h0 : J [] W) :
    CallsIn F n Try.prog 110 #[.func (.yield lp) #[] #[], .pointer (some ⟨Bs, 0, none⟩)] W fun e W' => (∃ v, e = .returned v) ∧
      ((∃ ys, ys = dn j j ∧ J ys W') ∨ (∃ pre, True ∧ Jx pre W')) := by
  have hjI : (j : Int) ≤ 256 := by omega
  have huH : Hid (Try.prog.underlying 70 = _) := Try.underlying70
  have hiH : Hid ((Try.prog.info? 70).map (·.size) = some 26) := infoE26
  have hcell : ∀ {V : World}, Keeps n₀ Bs W V → V.cell? ⟨Bs, 0, none⟩ = some (.slice a j cap) := fun {V} hk => by
    have := hk.2.trans hBs
    simp [World.cell?, this]
  have hcW := hcell (Keeps.refl _ _ _)
  refine callsIn_of_wp Try.func110 rfl hf ?_ hro
  simp only [Try.ntmps110, List.size_toArray, List.length_cons, List.length_nil, Nat.reduceAdd, Nat.reduceSub, Array.replicate_succ, Array.replicate_zero, List.push_toArray, List.append_toArray, List.nil_append, List.cons_append]
  gi_wp2
  gi_loopw [3] (fun u wr => ∃ (k : Nat) (i : Int), k ≤ j ∧ u = .int .i64 i ∧ i = (j : Int) - 1 - k ∧ J (dn j k) wr ∧ Keeps n₀ Bs W wr)
    (fun u _ => (intOf u + 1).toNat)
  case atStart => exact ⟨0, (j : Int) - 1, Nat.zero_le _, by go_num, by simp, h0, Keeps.refl _ _ _⟩
  case round =>
    obtain ⟨k, i, hk, rfl, hi, hJs, hnx⟩ := hrel
    have hcx := hcell hnx
    by_cases hlt : k < j
    · have hjk : j - 1 - k < j := by omega
      have hi0 : 0 ≤ i := by omega
      have hi1 : i ≤ 256 := by omega
      have hie : ((j - 1 - k : Nat) : Int) = i := by omega
      obtain ⟨b, o, hix, hbn, hrg⟩ := (hc.below hnx.1) (j - 1 - k) (by omega)
      rw [hie] at hix
      obtain ⟨fn, tmps, assign, body, hy, hR⟩ := hY _ ⟨j - 1 - k, hjk⟩ wr hJs (by rw [dn_len hk]; exact hlt)
      dsimp only at hy
      rw [hie] at hy
      have hm := dn_more hlt
      generalize ev (j - 1 - k) = x at *
      have hrH : Hid (wr.rangeAt b o x.cells) := hrg
      have hiK : Hid (i = (j : Int) - 1 - k) := hi
      clear hrg hi hie
      gi_wp2_with (refine inF_load_mid rfl 70 _ rfl b o rfl x.cells _ hrH.out huH.out rfl hiH.out ?_)
      refine hR.mono ?_
      rintro e W3 (⟨rfl, hJ3, hk3⟩ | ⟨rfl, hJx3⟩)
      · gi_wp2
        go_roundw
        case rel => exact ⟨k + 1, i - 1, by omega, by go_num, by have := hiK.out; omega, by rw [hm]; exact hJ3, hnx.trans hk3⟩
        case measure => simp [intOf]; omega
      · gi_wp2
        refine bodyPost_ret (results_none rfl _ _ _) rfl ?_
        exact ⟨⟨_, rfl⟩, .inr ⟨_, trivial, hJx3⟩⟩
    · have hi0 : ¬ 0 ≤ i := by omega
      have hJj : J (dn j j) wr := by have hkj : k = j := by omega
                                     rw [hkj] at hJs; exact hJs
      clear hi hJs
      gi_wp2
      go_end0
      exact ⟨⟨_, rfl⟩, .inl hJj⟩
set_option maxHeartbeats 1000000 in
theorem back_any (a : Option Addr) (len cap : Nat) (w : World) : Calls Try.prog 94 #[.slice a len cap] w fun e w' => e = .returned (.func (.func 110) #[] #[.pointer (some ⟨w.heap.size, 0, none⟩)]) ∧ w' = w.alloc (.cells #[.slice a len cap] 22) := by
  go_enter Try.func94, Try.ntmps94
  go_wp2
  go_ret
  exact ⟨rfl, rfl⟩
/-- What slices.Backward hands back gives the events, from the last one down. -/
theorem back_stops (F : Fence) (n : Nat) (hf : F.fn 110) (hro : F.round = none) (hn : 1 ≤ n) (Bs n₀ j cap : Nat) (a : Option Addr) (ev : Nat → Ev) (hj : j ≤ 256) (w : World) (hB : Bs < w.heap.size) (hn0 : n₀ ≤ w.heap.size)
    (hBs : w.heap[Bs]? = some (.cells #[.slice a j cap] 22)) (hc : EvAt n₀ w a j cap ev) :
    SeqStopsK F n Try.prog 110 #[.pointer (some ⟨Bs, 0, none⟩)] (fun x : { i : Nat // i < j } => #[Value.int .i64 (x.1 : Int), .agg (ev x.1).cells.toArray]) (Keeps n₀ Bs) (fun ys => ys = dn j j) (fun _ => True) j w :=
  fun l J Jx W hW _ _ hY h0 => back1_in F n hf hro hn l Bs n₀ j cap a ev hj J Jx hY W ((hW.block Bs hB).trans hBs) (hc.below (hW.mono hn0)) h0
theorem keeps_b {n₀ Bs : Nat} {w : World} (hn : n₀ ≤ w.heap.size) (hB : Bs < w.heap.size) (W : World) (l : Nat) (o o' : Obj) (hl : w.heap.size ≤ l) (h : W.heap[l]? = some o) (h1 : o.isCells = false) (h2 : o.isWalk = false) : Keeps n₀ Bs W (W.putObj l o') :=
  ⟨belowK_b hn W l o o' hl h h1 h2, World.putObj_heap_other (by omega)⟩
end Go.Proofs.Ytkadlopcomjonaa.pg
/- Clocks as plain data, and where they lie. -/
namespace Go.Proofs.Ytkadlopcomjonaa.pg
open Go.ChangeShapes Go.WideShapes Go.ChangeAt Go.RowKit
set_option linter.unusedVariables false
set_option linter.unusedSimpArgs false
set_option maxRecDepth 100000
/-- A clock. -/
structure Ck where
  c0 : Int
  c1 : Int
  c2 : Int
  c3 : Int
  c4 : Int
  c5 : Int
def Ck.cells (x : Ck) : List Value := [.int .i64 x.c0, .int .i64 x.c1, .int .i64 x.c2, .int .i64 x.c3, .int .i64 x.c4, .int .i64 x.c5]
abbrev Ck.val (x : Ck) : Value := .agg #[.int .i64 x.c0, .int .i64 x.c1, .int .i64 x.c2, .int .i64 x.c3, .int .i64 x.c4, .int .i64 x.c5]
def Ck.list (x : Ck) : List Int := [x.c0, x.c1, x.c2, x.c3, x.c4, x.c5]
def Ck.wf (x : Ck) : Prop := I64 x.c0 ∧ I64 x.c1 ∧ I64 x.c2 ∧ I64 x.c3 ∧ I64 x.c4 ∧ I64 x.c5
abbrev objK (x : Ck) : Obj := .cells #[.int .i64 x.c0, .int .i64 x.c1, .int .i64 x.c2, .int .i64 x.c3, .int .i64 x.c4, .int .i64 x.c5] 86
def BoxK (w : World) (B : Nat) (x : Ck) : Prop := w.cell? ⟨B, 0, none⟩ = some (.int .i64 x.c0) ∧ w.cell? ⟨B, 1, none⟩ = some (.int .i64 x.c1) ∧ w.cell? ⟨B, 2, none⟩ = some (.int .i64 x.c2) ∧ w.cell? ⟨B, 3, none⟩ = some (.int .i64 x.c3) ∧ w.cell? ⟨B, 4, none⟩ = some (.int .i64 x.c4) ∧ w.cell? ⟨B, 5, none⟩ = some (.int .i64 x.c5)
theorem BoxK.later {w w' : World} {B : Nat} {x : Ck} (h : BoxK w B x) (hb : Below w.heap.size w w') : BoxK w' B x := ⟨cell_later hb h.1, cell_later hb h.2.1, cell_later hb h.2.2.1, cell_later hb h.2.2.2.1, cell_later hb h.2.2.2.2.1, cell_later hb h.2.2.2.2.2⟩
theorem boxK_new (w : World) (x : Ck) : BoxK (w.alloc (objK x)) w.heap.size x := by
  refine ⟨?_, ?_, ?_, ?_, ?_, ?_⟩ <;> exact World.cell?_alloc_at _ _ _ _ rfl
/-- A clock is right. -/
def okC (n : Int) : Prop := 0 ≤ n ∧ n ≤ 1073741824
def Ck.ok (x : Ck) : Prop := ∀ n ∈ x.list, okC n
theorem Ck.ok_iff (x : Ck) : x.ok ↔ okC x.c0 ∧ okC x.c1 ∧ okC x.c2 ∧ okC x.c3 ∧ okC x.c4 ∧ okC x.c5 := by
  unfold Ck.ok Ck.list
  simp
theorem Ck.list_len (x : Ck) : x.list.length = 6 := rfl
theorem ck_ix (x : Ck) (k : Nat) (n : Int) (h : x.list[k]? = some n) : ∀ wx, (Instr.index 86 x.val (.int .i64 (k : Int))).run Try.prog wx = .ok (.int .i64 n) wx := by
  match k, h with
  | 0, h => simp only [Ck.list, List.getElem?_cons_zero, List.getElem?_cons_succ, Option.some.injEq] at h; subst h; exact fun _ => by kernel_rfl
  | 1, h => simp only [Ck.list, List.getElem?_cons_zero, List.getElem?_cons_succ, Option.some.injEq] at h; subst h; exact fun _ => by kernel_rfl
  | 2, h => simp only [Ck.list, List.getElem?_cons_zero, List.getElem?_cons_succ, Option.some.injEq] at h; subst h; exact fun _ => by kernel_rfl
  | 3, h => simp only [Ck.list, List.getElem?_cons_zero, List.getElem?_cons_succ, Option.some.injEq] at h; subst h; exact fun _ => by kernel_rfl
  | 4, h => simp only [Ck.list, List.getElem?_cons_zero, List.getElem?_cons_succ, Option.some.injEq] at h; subst h; exact fun _ => by kernel_rfl
  | 5, h => simp only [Ck.list, List.getElem?_cons_zero, List.getElem?_cons_succ, Option.some.injEq] at h; subst h; exact fun _ => by kernel_rfl
  | k + 6, h => simp [Ck.list] at h
/-- An index of a clock in its box. -/
theorem ck_at (B : Nat) (k : Nat) (h : k < 6) : ∀ wx, (Instr.indexAt 86 (.pointer (some ⟨B, 0, none⟩)) (.int .i64 (k : Int))).run Try.prog wx = .ok (.pointer (some ⟨B, k, none⟩)) wx := by
  match k, h with
  | 0, _ => exact fun _ => by kernel_rfl
  | 1, _ => exact fun _ => by kernel_rfl
  | 2, _ => exact fun _ => by kernel_rfl
  | 3, _ => exact fun _ => by kernel_rfl
  | 4, _ => exact fun _ => by kernel_rfl
  | 5, _ => exact fun _ => by kernel_rfl
section
variable {H : Type} {enc : TypeId × Value → H} {w : World} {base : Nat} {spare : Nat → Bool} {held : Bool}
theorem len6 {α : Type} {l : List α} (h : l.length = 6) : ∃ a b c d e f, l = [a, b, c, d, e, f] := by
  match l, h with
  | [a, b, c, d, e, f], _ => exact ⟨a, b, c, d, e, f, rfl⟩
theorem ck_in {n : Nat} {cs : List Value} {y : DataW H × List MemPlace} (hl : cs.length = 6) (h : DataW.trod enc Try.prog w base spare held n 86 cs = some y) : ∃ x : Ck, cs = x.cells ∧ x.wf := by
  have hc1 : Try.prog.cellsOf 3 = 1 := by kernel_rfl
  obtain ⟨xs, m, _, _, _, hlen, hf⟩ := DataW.trod_array Try.underlying86 h
  rw [hc1] at hf
  obtain ⟨v0, v1, v2, v3, v4, v5, rfl⟩ := len6 hl
  obtain ⟨y0, y1, y2, y3, y4, y5, rfl⟩ := len6 hlen
  obtain ⟨z0, rfl, b0⟩ := int_in Try.underlying3 (hf 0 (by omega))
  obtain ⟨z1, rfl, b1⟩ := int_in Try.underlying3 (hf 1 (by omega))
  obtain ⟨z2, rfl, b2⟩ := int_in Try.underlying3 (hf 2 (by omega))
  obtain ⟨z3, rfl, b3⟩ := int_in Try.underlying3 (hf 3 (by omega))
  obtain ⟨z4, rfl, b4⟩ := int_in Try.underlying3 (hf 4 (by omega))
  obtain ⟨z5, rfl, b5⟩ := int_in Try.underlying3 (hf 5 (by omega))
  exact ⟨⟨z0, z1, z2, z3, z4, z5⟩, rfl, b0, b1, b2, b3, b4, b5⟩
/-- A clock that came in. -/
theorem ck_arg {n : Nat} {cs : List Value} {y : DataW H × List MemPlace} (h : DataW.trod enc Try.prog w base spare held n 86 cs = some y) : ∃ x : Ck, Value.agg cs.toArray = x.val ∧ x.wf := by
  have hl : cs.length = 6 := by
    obtain ⟨xs, m, _, _, hl, _⟩ := DataW.trod_array Try.underlying86 h
    rw [hl]
    kernel_rfl
  obtain ⟨x, rfl, hw⟩ := ck_in hl h
  exact ⟨x, rfl, hw⟩
/-- A list of clocks that came in. -/
theorem cks_in {n : Nat} {a : Option Addr} {len cap : Nat} {y : DataW H × List MemPlace} (h : DataW.trod enc Try.prog w base spare held n 79 [.slice a len cap] = some y) : ∃ l : List Ck, l.length = len ∧ Rows w 6 a cap (l.map Ck.cells) ∧ ∀ x ∈ l, x.wf :=
  rows_in (k := 6) ⟨0, 0, 0, 0, 0, 0⟩ Ck.cells Ck.wf Try.underlying79 (by kernel_rfl) (by omega) (fun n cs y hl h => ck_in hl h) h
end
def eqK (x y : Ck) : Bool := x.c0 == y.c0 && x.c1 == y.c1 && x.c2 == y.c2 && x.c3 == y.c3 && x.c4 == y.c4 && x.c5 == y.c5
theorem eqK_iff (x y : Ck) : eqK x y = true ↔ x = y := by
  cases x; cases y; simp [eqK, Bool.and_eq_true, beq_iff_eq, and_assoc]
end Go.Proofs.Ytkadlopcomjonaa.pg
