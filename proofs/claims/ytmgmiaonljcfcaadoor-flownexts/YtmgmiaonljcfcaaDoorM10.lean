/- The places behind an instruction, handed out one by one: a contract for whatever loop stands over it. -/
import Derived.Test.YtmgmiaonljcfcaaDoorM9
import Derived.RangeFuncNested
import Derived.RangeFuncBound
import Derived.RangeFuncCalls
import Derived.RangeFuncLeaves
import Derived.Shelf.Abstract
import Derived.WalkKit
import Derived.OwnWalkIn
import Derived.TacticsInMore
import Derived.LoopNIn
import Derived.LoopIn
namespace Go.Proofs.YtmgmiaonljcfcaaDoor.pg
open Go.ChangeShapes Go.WideShapes Go.ChangeAt Go.RowKit Go.Shelf
set_option linter.unusedVariables false
set_option linter.unusedSimpArgs false
set_option maxRecDepth 100000
attribute [local go_sem] Oper.semAt_some
theorem roundAny {m m' : Nat} {P : Program} {l : Nat} {f : FuncId} {tmps : Array Value} {assign body : Code} {w : World} {R : Ending → World → Prop} (h : RoundIn Fence.wide m P l f tmps assign body w R) : RoundIn Fence.wide m' P l f tmps assign body w R := ⟨h.1, fun c cs _ => h.2 c cs (fun d q => by cases q)⟩
theorem yieldAny {m : Nat} (m' : Nat) {P : Program} {l : Nat} {args : Array Value} {W : World} {R : Ending → World → Prop} (h : YieldAt Fence.wide m P l args W R) : YieldAt Fence.wide m' P l args W R := by
  obtain ⟨fn, tmps, assign, body, hy, hR⟩ := h
  exact ⟨fn, tmps, assign, body, hy, roundAny hR⟩
/-- A place. -/
abbrev PlI := { x : Int // 0 ≤ x ∧ x < 64 }
def subL (l : List Int) (h : ∀ x ∈ l, 0 ≤ x ∧ x < 64) : List PlI := l.pmap Subtype.mk h
theorem subL_len (l : List Int) (h : ∀ x ∈ l, 0 ≤ x ∧ x < 64) : (subL l h).length = l.length := List.length_pmap
theorem subL_val (l : List Int) (h : ∀ x ∈ l, 0 ≤ x ∧ x < 64) : (subL l h).map (·.1) = l := by
  unfold subL
  rw [List.map_pmap]
  exact List.pmap_eq_self.mpr (fun _ _ => rfl)
theorem subL_at {l : List Int} (h : ∀ x ∈ l, 0 ≤ x ∧ x < 64) {k : Nat} {x : Int} (hk : l[k]? = some x) : (subL l h)[k]? = some ⟨x, h x (List.mem_of_getElem? hk)⟩ := by
  unfold subL
  rw [List.getElem?_pmap]
  simp [hk]
theorem take_more {α : Type} {l : List α} {k : Nat} {x : α} (h : l[k]? = some x) : l.take k ++ [x] = l.take (k + 1) := by rw [List.take_add_one, h]; rfl
/-- What a round keeps: all cells but one block's. -/
def KeepC (n₀ OB : Nat) (W W' : World) : Prop := Below n₀ W W' ∧ ∀ b cs t z, b ≠ OB → W.heap[b]? = some (.cells cs t z) → W'.heap[b]? = some (.cells cs t z)
theorem KeepC.trans {n₀ OB : Nat} {A B C : World} (h : KeepC n₀ OB A B) (k : KeepC n₀ OB B C) : KeepC n₀ OB A C := ⟨h.1.trans k.1, fun b cs t z hb q => k.2 b cs t z hb (h.2 b cs t z hb q)⟩
theorem KeepC.refl (n₀ OB : Nat) (W : World) : KeepC n₀ OB W W := ⟨Below.refl _ _, fun _ _ _ _ _ q => q⟩
theorem keepC_b {n₀ OB : Nat} {w : World} (hn : n₀ ≤ w.heap.size) (W : World) (l : Nat) (o o' : Obj) (hl : w.heap.size ≤ l) (h : W.heap[l]? = some o) (h1 : o.isCells = false) (h2 : o.isWalk = false) : KeepC n₀ OB W (W.putObj l o') :=
  ⟨belowK_b hn W l o o' hl h h1 h2, fun b cs t z hb q => by
    by_cases e : b = l
    · subst e; rw [h] at q; cases q; cases h1
    · exact (World.putObj_heap_other e).trans q⟩
theorem abide {β : Type} {B : Nat} {J : β → World → Prop} (h : AbidesFrom B J) {s : β} {W W' : World} (hs : J s W) (hb : Below W.heap.size W W') : J s W' := h s W W' none hs ⟨hb.os, hb.tape, hb.output, hb.size, fun k hk _ => hb.block k hk⟩ (fun r e => by cases e)
set_option maxHeartbeats 2000000 in
theorem choose_in (n : Nat) (w0 : World) (s : MSel) (hs : s.lies w0) (c4 : s.cases.length ≤ 4) (hto : ∀ x ∈ selTo s.sel, 0 ≤ x ∧ x < 64) (l OB B : Nat) (J Jx : List PlI → World → Prop) (hJ : AbidesFrom B J)
    (hY : ∀ m pre x W, J pre W → pre.length < (selTo s.sel).length → YieldAt Fence.wide m Tryd.prog l #[.int .i64 x.1] W fun e W' =>
      (e = .returned (.bool true) ∧ J (pre ++ [x]) W' ∧ KeepC w0.heap.size OB W W') ∨ (e = .returned (.bool false) ∧ Jx (pre ++ [x]) W'))
    (W : World) (hW : Below w0.heap.size w0 W) (hOB : OB < W.heap.size) (h0 : J [] W) :
    CallsIn Fence.wide n Tryd.prog 60 #[s.val, .func (.yield l) #[] #[]] W fun e W' => (∃ v, e = .returned v) ∧
      (J (subL (selTo s.sel) hto) W' ∨ ∃ q, Jx q W') := by
  have hCB : (W.alloc (.cells #[.slice s.at_ s.cases.length s.cap, .int .i64 s.els] 76)).heap[W.heap.size]? = some (.cells #[.slice s.at_ s.cases.length s.cap, .int .i64 s.els] 76) := heap_alloc_new W _
  have hb1 := boxed W (.cells #[.slice s.at_ s.cases.length s.cap, .int .i64 s.els] 76)
  have hJ1 := abide hJ h0 hb1
  have hW1 : Below w0.heap.size w0 (W.alloc (.cells #[.slice s.at_ s.cases.length s.cap, .int .i64 s.els] 76)) := bthen hW hb1
  have hlI : (s.cases.length : Int) ≤ 4 := by omega
  have hne : W.heap.size ≠ OB := by omega
  have hYH : Hid _ := hY
  have hsH : Hid (s.lies w0) := hs
  have hJH : Hid (AbidesFrom B J) := hJ
  clear hW h0 hY hJ hs hb1
  refine callsIn_of_wp Tryd.func60 rfl trivial ?_ rfl
  simp only [Tryd.ntmps60, List.size_toArray, List.length_cons, List.length_nil, Nat.reduceAdd, Nat.reduceSub, Array.replicate_succ, Array.replicate_zero, List.push_toArray, List.append_toArray, List.nil_append, List.cons_append]
  have k0 := cell_ofF (k := 0) (v := .slice s.at_ s.cases.length s.cap) hCB rfl
  gi_wp2
  clear k0
  generalize W.alloc (.cells #[.slice s.at_ s.cases.length s.cap, .int .i64 s.els] 76) = V at *
  generalize W.heap.size = CB at *
  gi_loopw [9] (fun u wr => ∃ k : Nat, k ≤ s.cases.length ∧ u = .int .i64 (k : Int) ∧ Hid (J ((subL (selTo s.sel) hto).take k) wr ∧ Below w0.heap.size w0 wr ∧ wr.heap[CB]? = some (.cells #[.slice s.at_ s.cases.length s.cap, .int .i64 s.els] 76))) (fun u _ => s.cases.length - (intOf u).toNat)
  case atStart => exact ⟨0, Nat.zero_le _, rfl, hJ1, hW1, hCB⟩
  case round =>
    clear hJ1 hW1 hCB
    obtain ⟨k, hk, rfl, hr⟩ := hrel
    by_cases hlt : k < s.cases.length
    · obtain ⟨c, hc, hcm⟩ := get_lt s.cases k hlt
      obtain ⟨cb, co, hix, hcb, i0, i1, i2, i3⟩ := cas_ix (hsH.out.1.later hr.out.2.1) k c hc
      have hkI : (k : Int) < s.cases.length := by omega
      have hsk : (selTo s.sel)[k]? = some c.to := by
        unfold selTo
        have h1 : (s.sel.cases.map Cas.to)[k]? = some c.to := by rw [List.getElem?_map]; show (s.cases[k]?).map _ = _; rw [hc]; rfl
        rw [List.getElem?_append_left (List.getElem?_eq_some_iff.mp h1).1]
        exact h1
      have hbn := boxed wr (.cells #[.bool c.send, .int .i64 c.ch, .int .i64 c.reg, .int .i64 c.to] 78)
      have hCn : (wr.alloc (.cells #[.bool c.send, .int .i64 c.ch, .int .i64 c.reg, .int .i64 c.to] 78)).heap[wr.heap.size]? = some (.cells #[.bool c.send, .int .i64 c.ch, .int .i64 c.reg, .int .i64 c.to] 78) := heap_alloc_new wr _
      have j3 := cell_ofF (k := 3) (v := .int .i64 c.to) hCn rfl
      have hr2 : Hid (J ((subL (selTo s.sel) hto).take k) (wr.alloc (.cells #[.bool c.send, .int .i64 c.ch, .int .i64 c.reg, .int .i64 c.to] 78)) ∧ Below w0.heap.size w0 (wr.alloc (.cells #[.bool c.send, .int .i64 c.ch, .int .i64 c.reg, .int .i64 c.to] 78)) ∧ (wr.alloc (.cells #[.bool c.send, .int .i64 c.ch, .int .i64 c.reg, .int .i64 c.to] 78)).heap[CB]? = some (.cells #[.slice s.at_ s.cases.length s.cap, .int .i64 s.els] 76)) :=
        ⟨abide hJH.out hr.out.1 hbn, bthen hr.out.2.1 hbn, (hbn.block CB (Array.getElem?_eq_some_iff.mp hr.out.2.2).1).trans hr.out.2.2⟩
      have htl : ((subL (selTo s.sel) hto).take k).length < (selTo s.sel).length := by
        have := (List.getElem?_eq_some_iff.mp hsk).1
        rw [List.length_take, subL_len]; omega
      have hmore := take_more (subL_at hto hsk)
      have hx64 : 0 ≤ c.to ∧ c.to < 64 := hto _ (List.mem_of_getElem? hsk)
      obtain ⟨fn, tmps, assign, body, hy, hR⟩ := hYH.out (n - 1) _ ⟨c.to, hx64⟩ _ hr2.out.1 htl
      dsimp only at hy
      have hmH : Hid ((subL (selTo s.sel) hto).take k ++ [⟨c.to, hx64⟩] = (subL (selTo s.sel) hto).take (k + 1)) := hmore
      clear hmore hsk hbn hCn htl hc hcm hr
      gi_wp2
      refine ⟨fun h => (by cases h), hR.mono ?_⟩
      rintro e W3 (⟨rfl, hJ3, hk3⟩ | ⟨rfl, hJx3⟩)
      · have hr3 : Hid (J ((subL (selTo s.sel) hto).take (k + 1)) W3 ∧ Below w0.heap.size w0 W3 ∧ W3.heap[CB]? = some (.cells #[.slice s.at_ s.cases.length s.cap, .int .i64 s.els] 76)) := ⟨by rw [← hmH.out]; exact hJ3, hr2.out.2.1.trans hk3.1, hk3.2 CB _ _ _ hne hr2.out.2.2⟩
        gi_wp2
        go_roundw
        case rel => exact ⟨k + 1, by omega, by go_num, hr3⟩
        case measure => simp [intOf]; omega
      · gi_wp2
        refine bodyPost_ret (results_none rfl _ _ _) rfl ?_
        exact ⟨⟨_, rfl⟩, .inr ⟨_, hJx3⟩⟩
    · have hk2 : k = s.cases.length := by omega
      have hkI : ¬ ((k : Int) < s.cases.length) := by omega
      have j1 := cell_ofF (k := 1) (v := .int .i64 s.els) hr.out.2.2 rfl
      by_cases he : s.els = -1
      · have hend : (subL (selTo s.sel) hto).take k = subL (selTo s.sel) hto := by
          rw [List.take_of_length_le]
          rw [subL_len, hk2]
          unfold selTo
          rw [if_pos (show s.sel.els = -1 from he), List.append_nil, List.length_map]
          exact Nat.le_refl _
        have hrE : Hid (J (subL (selTo s.sel) hto) wr) := by show J _ wr; rw [← hend]; exact hr.out.1
        rw [he] at j1
        clear hend hk2 he hr
        gi_wp2
        go_end0
        exact ⟨⟨_, rfl⟩, .inl hrE.out⟩
      · have hsk : (selTo s.sel)[k]? = some s.els := by
          unfold selTo
          rw [if_neg (show ¬ s.sel.els = -1 from he), List.getElem?_append_right (by rw [List.length_map]; show s.cases.length ≤ k; omega), List.length_map]
          show [s.els][k - s.cases.length]? = _
          rw [hk2, Nat.sub_self]; rfl
        have hend : (subL (selTo s.sel) hto).take (k + 1) = subL (selTo s.sel) hto := by
          rw [List.take_of_length_le]
          rw [subL_len, hk2]
          unfold selTo
          rw [if_neg (show ¬ s.sel.els = -1 from he), List.length_append, List.length_map]
          exact Nat.le_refl _
        have hmore := take_more (subL_at hto hsk)
        have htl : ((subL (selTo s.sel) hto).take k).length < (selTo s.sel).length := by
          have := (List.getElem?_eq_some_iff.mp hsk).1
          rw [List.length_take, subL_len]; omega
        have d : (s.els != -1) = true := by simpa using he
        have hx64 : 0 ≤ s.els ∧ s.els < 64 := hto _ (List.mem_of_getElem? hsk)
        obtain ⟨fn, tmps, assign, body, hy, hR⟩ := hYH.out (n - 1) _ ⟨s.els, hx64⟩ _ hr.out.1 htl
        dsimp only at hy
        have hmH : Hid ((subL (selTo s.sel) hto).take k ++ [⟨s.els, hx64⟩] = subL (selTo s.sel) hto) := hmore.trans hend
        clear hmore hend htl hk2 he hr hsk
        gi_wp2
        refine ⟨fun h => (by cases h), hR.mono ?_⟩
        rintro e W3 (⟨rfl, hJ3, hk3⟩ | ⟨rfl, hJx3⟩)
        · have hrE : Hid (J (subL (selTo s.sel) hto) W3) := by show J _ W3; rw [← hmH.out]; exact hJ3
          gi_wp2
          go_end0
          exact ⟨⟨_, rfl⟩, .inl hrE.out⟩
        · gi_wp2
          go_end0
          exact ⟨⟨_, rfl⟩, .inr ⟨_, hJx3⟩⟩
end Go.Proofs.YtmgmiaonljcfcaaDoor.pg
/- The iterator over what may come behind a place. -/
namespace Go.Proofs.YtmgmiaonljcfcaaDoor.pg
open Go.ChangeShapes Go.WideShapes Go.ChangeAt Go.RowKit Go.Shelf
set_option linter.unusedVariables false
set_option linter.unusedSimpArgs false
set_option maxRecDepth 100000
attribute [local go_sem] Oper.semAt_some
abbrev objFn (F : MFn) : Obj := .cells #[.int .i64 F.params, .int .i64 F.regs, .slice F.ca F.code.length F.ccap, .slice F.sa F.sels.length F.scap] 65
theorem subL_cons1 {x : Int} (h : ∀ y ∈ [x], 0 ≤ y ∧ y < 64) (h1 : 0 ≤ x ∧ x < 64) : subL [x] h = [⟨x, h1⟩] := rfl
theorem subL_cons2 {x y : Int} (h : ∀ z ∈ [x, y], 0 ≤ z ∧ z < 64) (h1 : 0 ≤ x ∧ x < 64) (h2 : 0 ≤ y ∧ y < 64) : subL [x, y] h = [⟨x, h1⟩, ⟨y, h2⟩] := rfl
theorem subL_congr {l m : List Int} (e : l = m) (h : ∀ x ∈ l, 0 ≤ x ∧ x < 64) : subL l h = subL m (e ▸ h) := by subst e; rfl
set_option maxHeartbeats 2000000 in
theorem behind1_in (n : Nat) (w0 : World) (F : MFn) (hF : F.lies w0) (hfl : FlowF F.fn) (pc : Nat) (hpc : pc < F.code.length) (hto : ∀ x ∈ nxt F.fn pc, 0 ≤ x ∧ x < 64) (l OB B Bf Bp : Nat) (J Jx : List PlI → World → Prop) (hJ : AbidesFrom B J)
    (hY : ∀ m pre x W, J pre W → pre.length < (nxt F.fn pc).length → YieldAt Fence.wide m Tryd.prog l #[.int .i64 x.1] W fun e W' =>
      (e = .returned (.bool true) ∧ J (pre ++ [x]) W' ∧ KeepC w0.heap.size OB W W') ∨ (e = .returned (.bool false) ∧ Jx (pre ++ [x]) W'))
    (W : World) (hW : Below w0.heap.size w0 W) (hOB : OB < W.heap.size) (hBf : W.heap[Bf]? = some (objFn F)) (hBp : W.heap[Bp]? = some (.cells #[.int .i64 (pc : Int)] 3)) (hnp : Bp ≠ OB) (h0 : J [] W) :
    CallsIn Fence.wide n Tryd.prog 59 #[.func (.yield l) #[] #[], .pointer (some ⟨Bf, 0, none⟩), .pointer (some ⟨Bp, 0, none⟩)] W fun e W' => (∃ v, e = .returned v) ∧
      (J (subL (nxt F.fn pc) hto) W' ∨ ∃ q, Jx q W') := by
  have hl64 := hfl.l64
  have hp64 : (pc : Int) < 64 := by have : F.fn.code.length = F.code.length := rfl; omega
  obtain ⟨m1, m2⟩ := insAt_mem (code := F.code) (pc := (pc : Int)) (by omega) (by omega)
  rw [Int.toNat_natCast] at m1
  obtain ⟨ib, io, hix, hib, i0, i1, i2, i3, i4⟩ := ins_ix (hF.later hW).1 pc _ m1
  have hnx : nxt F.fn pc = nxtI F.fn (insAt F.code pc) pc := rfl
  have hsl := hfl.s pc hpc
  rw [show F.fn.code = F.code from rfl] at hsl
  have hnx' : ∀ x ∈ nxtI F.fn (insAt F.code pc) pc, 0 ≤ x ∧ x < 64 := by rw [← hnx]; exact hto
  have f2 := cell_ofF (k := 2) (v := .slice F.ca F.code.length F.ccap) hBf rfl
  have f3 := cell_ofF (k := 3) (v := .slice F.sa F.sels.length F.scap) hBf rfl
  have q0 := cell_ofF (k := 0) (v := .int .i64 (pc : Int)) hBp rfl
  have hE : Hid (J (subL (nxtI F.fn (insAt F.code pc) pc) hnx') = J (subL (nxt F.fn pc) hto)) := rfl
  have hYH : Hid (∀ m pre x W, J pre W → pre.length < (nxtI F.fn (insAt F.code pc) pc).length → YieldAt Fence.wide m Tryd.prog l #[.int .i64 x.1] W fun e W' =>
      (e = .returned (.bool true) ∧ J (pre ++ [x]) W' ∧ KeepC w0.heap.size OB W W') ∨ (e = .returned (.bool false) ∧ Jx (pre ++ [x]) W')) := hY
  generalize insAt F.code pc = i at *
  have hb1 := boxed W (.cells #[.int .i64 i.op, .int .i64 i.a, .int .i64 i.b, .int .i64 i.c, .int .i64 i.n] 72)
  have hCn : (W.alloc (.cells #[.int .i64 i.op, .int .i64 i.a, .int .i64 i.b, .int .i64 i.c, .int .i64 i.n] 72)).heap[W.heap.size]? = some (.cells #[.int .i64 i.op, .int .i64 i.a, .int .i64 i.b, .int .i64 i.c, .int .i64 i.n] 72) := heap_alloc_new W _
  have j0 := cell_ofF (k := 0) (v := .int .i64 i.op) hCn rfl
  have j1 := cell_ofF (k := 1) (v := .int .i64 i.a) hCn rfl
  have j2 := cell_ofF (k := 2) (v := .int .i64 i.b) hCn rfl
  have g3 := cell_later hb1 f3
  have g0 := cell_later hb1 q0
  have hJ1 : Hid (J [] (W.alloc (.cells #[.int .i64 i.op, .int .i64 i.a, .int .i64 i.b, .int .i64 i.c, .int .i64 i.n] 72))) := abide hJ h0 hb1
  have hW1 : Hid (Below w0.heap.size w0 (W.alloc (.cells #[.int .i64 i.op, .int .i64 i.a, .int .i64 i.b, .int .i64 i.c, .int .i64 i.n] 72))) := bthen hW hb1
  have hO1 : Hid (OB < (W.alloc (.cells #[.int .i64 i.op, .int .i64 i.a, .int .i64 i.b, .int .i64 i.c, .int .i64 i.n] 72)).heap.size) := Nat.lt_of_lt_of_le hOB hb1.size
  have hBp1 : Hid ((W.alloc (.cells #[.int .i64 i.op, .int .i64 i.a, .int .i64 i.b, .int .i64 i.c, .int .i64 i.n] 72)).heap[Bp]? = some (.cells #[.int .i64 (pc : Int)] 3)) := (hb1.block Bp (Array.getElem?_eq_some_iff.mp hBp).1).trans hBp
  have hFH : Hid (F.lies w0) := hF
  have hJH : Hid (AbidesFrom B J) := hJ
  have hflH : Hid (FlowF F.fn) := hfl
  have hpw : wrap64 ((pc : Int) + 1) = (pc : Int) + 1 := by unfold wrap64; omega
  clear hW h0 hY hJ hF hb1 hBf hBp hOB hfl m1 m2 hnx hl64 hCn
  refine callsIn_of_wp Tryd.func59 rfl trivial ?_ rfl
  simp only [Tryd.ntmps59, List.size_toArray, List.length_cons, List.length_nil, Nat.reduceAdd, Nat.reduceSub, Array.replicate_succ, Array.replicate_zero, List.push_toArray, List.append_toArray, List.nil_append, List.cons_append]
  by_cases h45 : i.op = 45
  · have hnl : nxtI F.fn i pc = [] := by unfold nxtI; rw [if_pos h45]
    have hend : Hid (subL (nxtI F.fn i pc) hnx' = []) := subL_congr hnl _
    have hJ2 : Hid (∀ V, J [] V → J (subL (nxtI F.fn i pc) hnx') V) := fun V h => by rw [hend.out]; exact h
    rw [h45] at i0 j0 hJ1
    clear hnl hend hYH hsl
    gi_wp2
    go_end0
    exact ⟨⟨_, rfl⟩, .inl (by rw [← hE.out]; exact hJ2.out _ hJ1.out)⟩
  have d45 : (i.op == 45) = false := by simpa using h45
  by_cases h42 : i.op = 42
  · have hnl : nxtI F.fn i pc = [i.a] := by unfold nxtI; rw [if_neg h45, if_pos h42]
    have hx64 : 0 ≤ i.a ∧ i.a < 64 := hnx' _ (by rw [hnl]; simp)
    have hend : Hid (subL (nxtI F.fn i pc) hnx' = [⟨i.a, hx64⟩]) := subL_congr hnl _
    obtain ⟨fn, tmps, assign, body, hy, hR⟩ := hYH.out (n - 1) [] ⟨i.a, hx64⟩ _ hJ1.out (by rw [hnl]; exact Nat.zero_lt_one)
    dsimp only at hy
    have d42 : (i.op == 42) = true := by simpa using h42
    clear hnl hYH hsl h45 h42
    gi_wp2
    refine ⟨fun h => (by cases h), hR.mono ?_⟩
    rintro e W3 (⟨rfl, hJ3, hk3⟩ | ⟨rfl, hJx3⟩)
    · have hrE : Hid (J (subL (nxtI F.fn i pc) hnx') W3) := by show J _ W3; rw [hend.out]; exact hJ3
      gi_wp2
      go_end0
      exact ⟨⟨_, rfl⟩, .inl (by rw [← hE.out]; exact hrE.out)⟩
    · gi_wp2
      go_end0
      exact ⟨⟨_, rfl⟩, .inr ⟨_, hJx3⟩⟩
  have d42 : (i.op == 42) = false := by simpa using h42
  by_cases h61 : i.op = 61
  · have hsr := hsl h61
    obtain ⟨s, hs, hsm⟩ := get_lt F.sels i.a.toNat (by have h1 := hsr.1; have h2 := hsr.2; have h3 : F.fn.sels.length = F.sels.length := (by show (F.sels.map MSel.sel).length = _; rw [List.length_map]); omega)
    have hse : selAt F.fn i.a = s.sel := by
      unfold selAt
      rw [List.getD_eq_getElem?_getD]
      show ((F.sels.map MSel.sel)[i.a.toNat]?).getD _ = _
      rw [List.getElem?_map, hs]
      rfl
    have hnl : nxtI F.fn i pc = selTo s.sel := by unfold nxtI; rw [if_neg h45, if_neg h42, if_pos h61, hse]
    have hst : ∀ x ∈ selTo s.sel, 0 ≤ x ∧ x < 64 := by rw [← hnl]; exact hnx'
    have hend : Hid (subL (nxtI F.fn i pc) hnx' = subL (selTo s.sel) hst) := subL_congr hnl _
    have hc4 : s.cases.length ≤ 4 := hflH.out.c s.sel (List.mem_map.mpr ⟨s, hsm, rfl⟩)
    obtain ⟨sb, so, hsx, hsb, e0, e1⟩ := sel_ix (hFH.out.later hW1.out).2.1 i.a.toNat s hs
    rw [show ((i.a.toNat : Nat) : Int) = i.a by have := hsr.1; omega] at hsx
    have hC := choose_in (n - 1) w0 s (hFH.out.2.2.2.1 s hsm) hc4 hst l OB B J Jx hJH.out (fun m pre x V hp hlt => hYH.out m pre x V hp (by rw [hnl]; exact hlt)) _ hW1.out hO1.out hJ1.out
    have d61 : (i.op == 61) = true := by simpa using h61
    clear hnl hse hs hsm hsl h45 h42 h61 hYH
    gi_wp2
    refine ⟨trivial, fun h => (by cases h), hC.mono ?_⟩
    rintro e W3 ⟨⟨v, rfl⟩, hr3⟩
    gi_wp2
    go_end0
    refine ⟨⟨_, rfl⟩, ?_⟩
    rcases hr3 with h | h
    · exact .inl (by rw [← hE.out, hend.out]; exact h)
    · exact .inr h
  have d61 : (i.op == 61) = false := by simpa using h61
  have hp1 : 0 ≤ (pc : Int) + 1 → True := fun _ => trivial
  by_cases h43 : i.op = 43
  · have hnl : nxtI F.fn i pc = [i.b, (pc : Int) + 1] := by unfold nxtI; rw [if_neg h45, if_neg h42, if_neg h61, if_pos h43]
    have hx64 : 0 ≤ i.b ∧ i.b < 64 := hnx' _ (by rw [hnl]; simp)
    have hy64 : 0 ≤ (pc : Int) + 1 ∧ (pc : Int) + 1 < 64 := hnx' _ (by rw [hnl]; simp)
    have hend : Hid (subL (nxtI F.fn i pc) hnx' = [⟨i.b, hx64⟩, ⟨(pc : Int) + 1, hy64⟩]) := subL_congr hnl _
    obtain ⟨fn, tmps, assign, body, hy, hR⟩ := hYH.out (n - 1) [] ⟨i.b, hx64⟩ _ hJ1.out (by rw [hnl]; exact Nat.zero_lt_succ 1)
    dsimp only at hy
    have hY2 : Hid (∀ V, J [⟨i.b, hx64⟩] V → YieldAt Fence.wide (n - 1) Tryd.prog l #[.int .i64 ((pc : Int) + 1)] V fun e W' => (e = .returned (.bool true) ∧ J ([⟨i.b, hx64⟩] ++ [⟨(pc : Int) + 1, hy64⟩]) W' ∧ KeepC w0.heap.size OB V W') ∨ (e = .returned (.bool false) ∧ Jx ([⟨i.b, hx64⟩] ++ [⟨(pc : Int) + 1, hy64⟩]) W')) := fun V hV => hYH.out (n - 1) [⟨i.b, hx64⟩] ⟨(pc : Int) + 1, hy64⟩ V hV (by rw [hnl]; exact Nat.one_lt_two)
    have d43 : (i.op == 43) = true := by simpa using h43
    clear hnl hYH hsl h45 h42 h61 h43
    gi_wp2
    refine ⟨fun h => (by cases h), hR.mono ?_⟩
    rintro e W3 (⟨rfl, hJ3, hk3⟩ | ⟨rfl, hJx3⟩)
    · have g9 : W3.cell? ⟨Bp, 0, none⟩ = some (.int .i64 (pc : Int)) := cell_ofF (hk3.2 Bp _ _ _ hnp hBp1.out) rfl
      obtain ⟨fn2, tmps2, assign2, body2, hy2, hR2⟩ := hY2.out W3 hJ3
      clear g0 g3 j0 j1 j2 hy
      gi_wp2
      refine ⟨fun h => (by cases h), hR2.mono ?_⟩
      rintro e W4 (⟨rfl, hJ4, hk4⟩ | ⟨rfl, hJx4⟩)
      · have hrE : Hid (J (subL (nxtI F.fn i pc) hnx') W4) := by show J _ W4; rw [hend.out]; exact hJ4
        gi_wp2
        go_end0
        exact ⟨⟨_, rfl⟩, .inl (by rw [← hE.out]; exact hrE.out)⟩
      · gi_wp2
        go_end0
        exact ⟨⟨_, rfl⟩, .inr ⟨_, hJx4⟩⟩
    · gi_wp2
      refine bodyPost_ret (results_none rfl _ _ _) rfl ?_
      exact ⟨⟨_, rfl⟩, .inr ⟨_, hJx3⟩⟩
  · have d43 : (i.op == 43) = false := by simpa using h43
    have hnl : nxtI F.fn i pc = [(pc : Int) + 1] := by unfold nxtI; rw [if_neg h45, if_neg h42, if_neg h61, if_neg h43]
    have hy64 : 0 ≤ (pc : Int) + 1 ∧ (pc : Int) + 1 < 64 := hnx' _ (by rw [hnl]; simp)
    have hend : Hid (subL (nxtI F.fn i pc) hnx' = [⟨(pc : Int) + 1, hy64⟩]) := subL_congr hnl _
    obtain ⟨fn, tmps, assign, body, hy, hR⟩ := hYH.out (n - 1) [] ⟨(pc : Int) + 1, hy64⟩ _ hJ1.out (by rw [hnl]; exact Nat.zero_lt_one)
    dsimp only at hy
    clear hnl hYH hsl h45 h42 h61 h43
    gi_wp2
    refine ⟨fun h => (by cases h), hR.mono ?_⟩
    rintro e W3 (⟨rfl, hJ3, hk3⟩ | ⟨rfl, hJx3⟩)
    · have hrE : Hid (J (subL (nxtI F.fn i pc) hnx') W3) := by show J _ W3; rw [hend.out]; exact hJ3
      gi_wp2
      go_end0
      exact ⟨⟨_, rfl⟩, .inl (by rw [← hE.out]; exact hrE.out)⟩
    · gi_wp2
      go_end0
      exact ⟨⟨_, rfl⟩, .inr ⟨_, hJx3⟩⟩
theorem behind_stops (n : Nat) (w0 : World) (F : MFn) (hF : F.lies w0) (hfl : FlowF F.fn) (pc : Nat) (hpc : pc < F.code.length) (hto : ∀ x ∈ nxt F.fn pc, 0 ≤ x ∧ x < 64) (OB Bf Bp : Nat) (w : World) (hW : Below w0.heap.size w0 w) (hOB : OB < w.heap.size) (hBf : w.heap[Bf]? = some (objFn F)) (hBp : w.heap[Bp]? = some (.cells #[.int .i64 (pc : Int)] 3)) (hnp : Bp ≠ OB) :
    SeqStopsK Fence.wide n Tryd.prog 59 #[.pointer (some ⟨Bf, 0, none⟩), .pointer (some ⟨Bp, 0, none⟩)] (fun x : PlI => #[Value.int .i64 x.1]) (KeepC w0.heap.size OB) (fun ys => ys = subL (nxt F.fn pc) hto) (fun _ => True) (nxt F.fn pc).length w := by
  intro l J Jx W hb hJ _ hY h0
  have h1 := behind1_in n w0 F hF hfl pc hpc hto l OB W.heap.size Bf Bp J Jx hJ (fun m pre x V hp hlt => yieldAny m (hY pre x V hp hlt)) W (bthen hW hb) (Nat.lt_of_lt_of_le hOB hb.size) ((hb.block Bf (Array.getElem?_eq_some_iff.mp hBf).1).trans hBf) ((hb.block Bp (Array.getElem?_eq_some_iff.mp hBp).1).trans hBp) hnp h0
  refine h1.mono ?_
  rintro e W' ⟨h2, h3⟩
  refine ⟨h2, ?_⟩
  rcases h3 with h | ⟨q, h⟩
  · exact .inl ⟨_, rfl, h⟩
  · exact .inr ⟨q, trivial, h⟩
theorem behind_any (F : MFn) (pc : Int) (w : World) : Calls Tryd.prog 53 #[F.val, .int .i64 pc] w fun e w' => e = .returned (.func (.func 59) #[] #[.pointer (some ⟨w.heap.size, 0, none⟩), .pointer (some ⟨w.heap.size + 1, 0, none⟩)]) ∧ w' = (w.alloc (objFn F)).alloc (.cells #[.int .i64 pc] 3) := by
  go_enter Tryd.func53, Tryd.ntmps53
  go_wp2
  go_ret
  exact ⟨rfl, rfl⟩
end Go.Proofs.YtmgmiaonljcfcaaDoor.pg
/- A loop over an iterator that stands in a loop: its marks; all that may come behind some places. -/
namespace Go.Proofs.YtmgmiaonljcfcaaDoor.pg
open Go.ChangeShapes Go.WideShapes Go.ChangeAt Go.RowKit Go.Shelf
set_option linter.unusedVariables false
set_option linter.unusedSimpArgs false
set_option maxRecDepth 100000
attribute [local go_sem] Oper.semAt_some
/-- The mark that a range over a function leaves among the deferred calls. -/
abbrev mkD (D : Nat) : Deferred := { target := .collected D, args := #[] }
structure Marks (n₀ : Nat) (Ds : List Nat) (W : World) : Prop where
  nd : Ds.Nodup
  at_ : ∀ D ∈ Ds, n₀ ≤ D ∧ W.heap[D]? = some (.deferred (some []))
theorem Marks.nil (n₀ : Nat) (W : World) : Marks n₀ [] W := ⟨List.nodup_nil, by simp⟩
theorem Marks.lt {n₀ : Nat} {Ds : List Nat} {W : World} (h : Marks n₀ Ds W) {D : Nat} (hD : D ∈ Ds) : D < W.heap.size := (Array.getElem?_eq_some_iff.mp (h.at_ D hD).2).1
theorem Marks.keep {n₀ : Nat} {Ds : List Nat} {W W' : World} (h : Marks n₀ Ds W) (hk : ∀ D ∈ Ds, W'.heap[D]? = W.heap[D]?) : Marks n₀ Ds W' := ⟨h.nd, fun D hD => ⟨(h.at_ D hD).1, (hk D hD).trans (h.at_ D hD).2⟩⟩
theorem Marks.later {n₀ : Nat} {Ds : List Nat} {W W' : World} (h : Marks n₀ Ds W) (hb : Below W.heap.size W W') : Marks n₀ Ds W' := h.keep fun D hD => hb.block D (h.lt hD)
theorem Marks.more {n₀ : Nat} {Ds : List Nat} {W : World} (h : Marks n₀ Ds W) {D : Nat} (hn : n₀ ≤ D) (hne : D ∉ Ds) (hD : W.heap[D]? = some (.deferred (some []))) : Marks n₀ (D :: Ds) W :=
  ⟨List.nodup_cons.mpr ⟨hne, h.nd⟩, fun E hE => by
    rcases List.mem_cons.mp hE with rfl | hE
    · exact ⟨hn, hD⟩
    · exact h.at_ E hE⟩
/-- What leaving keeps: all cells. -/
structure KeepD (n₀ : Nat) (W W' : World) : Prop where
  b : Below n₀ W W'
  c : ∀ (b : Nat) cs t z, W.heap[b]? = some (.cells cs t z) → W'.heap[b]? = some (.cells cs t z)
theorem leaves_marks {F : Fence} {n : Nat} {P : Program} {fn : Func} {tmps : Array Value} {R : Ending → World → Prop} {n₀ : Nat} : ∀ (Ds : List Nat) (W : World), Marks n₀ Ds W → (∀ W', KeepD n₀ W W' → LeavesIn F n P fn tmps R [] .returning W') → LeavesInM F n P fn tmps R (Ds.map mkD) .returning W
  | [], W, _, h => h W ⟨Below.refl _ _, fun _ _ _ _ q => q⟩
  | D :: Ds, W, hm, h => by
    obtain ⟨hn, hD⟩ := hm.at_ D (by simp)
    have hnd := List.nodup_cons.mp hm.nd
    refine ⟨(fun q => by cases q), .inl ⟨D, _, rfl, run_takeDeferred hD, ?_⟩⟩
    refine leaves_marks Ds _ ⟨hnd.2, fun E hE => ⟨(hm.at_ E (by simp [hE])).1, (World.putObj_heap_other (show E ≠ D from fun e => by subst e; exact hnd.1 hE)).trans (hm.at_ E (by simp [hE])).2⟩⟩ fun W' hk => h W' ?_
    have hb : Below n₀ W (W.putObj D (.deferred none)) := (Below.refl n₀ W).grown (grownBy_putObj' W D _) (by have := hm.lt (D := D) (by simp); omega) (fun k e => by cases e; exact hn)
    exact ⟨hb.trans hk.b, fun b cs t z q => hk.c b cs t z (by
      by_cases e : b = D
      · subst e; rw [hD] at q; cases q
      · exact (World.putObj_heap_other e).trans q)⟩
end Go.Proofs.YtmgmiaonljcfcaaDoor.pg
