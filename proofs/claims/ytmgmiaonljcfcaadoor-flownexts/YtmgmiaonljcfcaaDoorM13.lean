/- The local ones of some places; how long it runs along. -/
import Derived.Test.YtmgmiaonljcfcaaDoorM12
import Derived.Deep.DeepCutAuto
import Derived.Test.YtmgmiaonljcfcaaDoorM6
namespace Go.Proofs.YtmgmiaonljcfcaaDoor.pg
open Go.ChangeShapes Go.WideShapes Go.ChangeAt Go.RowKit Go.Shelf
set_option linter.unusedVariables false
set_option linter.unusedSimpArgs false
set_option maxRecDepth 100000
/-- The first m looked at. -/
def lcT (f : Fn) (s : Nat → Bool) (m : Nat) : Nat → Bool := fun k => if k < m then s k && prog.loc (insAt f.code k).op else s k
theorem lcT_zero (f : Fn) (s : Nat → Bool) : lcT f s 0 = s := by funext k; simp [lcT]
theorem lcT_at (f : Fn) (s : Nat → Bool) (m : Nat) : lcT f s m m = s m := by simp [lcT]
theorem lcT_more (f : Fn) (s : Nat → Bool) (m : Nat) (v : Bool) (hv : v = (s m && prog.loc (insAt f.code m).op)) : (fun b => if b = m then v else lcT f s m b) = lcT f s (m + 1) := by
  funext b
  unfold lcT
  by_cases c : b = m
  · subst c
    rw [if_pos rfl, if_pos (by omega), hv]
  · rw [if_neg c]
    by_cases d : b < m
    · rw [if_pos d, if_pos (by omega)]
    · rw [if_neg d, if_neg (by omega)]
set_option maxHeartbeats 2000000 in
theorem locals_any (F : MFn) (s : Nat → Bool) (w : World) (hF : F.lies w) (hfl : FlowF F.fn) (hP : prog.Forms w) :
    Calls Tryd.prog 39 #[F.val, .agg (boolRow 64 s)] w fun e w' => e = .returned (.agg (boolRow 64 (lcT F.fn s F.code.length))) ∧ Below w.heap.size w w' := by
  have huP : Hid (Tryd.prog.underlying 60 = _) := Tryd.underlying60
  have hzP : Hid (∀ w, (zeroValue 60).run Tryd.prog w = .ok (.agg (boolRow 64 fun _ => false)) w) := zeroSt
  have hl64 : (F.code.length : Int) ≤ 64 := by have := hfl.l64; have h : F.fn.code.length = F.code.length := rfl; omega
  obtain ⟨p1, p2, p3⟩ := three_new w (objFn F) (objPl s) (objPl fun _ => false)
  have s0 : Hid (GA w (((w.alloc (objFn F)).alloc (objPl s)).alloc (objPl fun _ => false)) F (lcT F.fn s 0)) := ⟨boxed3 _ _ _ _, p1, by rw [lcT_zero]; exact p2, p3⟩
  have f2 := cell_ofF (k := 2) (v := .slice F.ca F.code.length F.ccap) p1 rfl
  have hFH : Hid (F.lies w) := hF
  have hPH : Hid (prog.Forms w) := hP
  clear p1 p2 p3 hF hP
  go_enter Tryd.func39, Tryd.ntmps39
  go_wp2_with (refine wpList_alloc_big rfl 60 rfl hzP.out ?_)
  try simp only [Act.put, List.setIfInBounds_toArray, List.set_cons_zero, List.set_cons_succ, World.size_alloc]
  clear f2
  generalize ((w.alloc (objFn F)).alloc (objPl s)).alloc (objPl fun _ => false) = V at *
  go_loopw [10] (fun u wr => ∃ k : Nat, k ≤ F.code.length ∧ u = .int .i64 (k : Int) ∧ Hid (GA w wr F (lcT F.fn s k))) (fun u _ => F.code.length - (intOf u).toNat)
  case atStart => exact ⟨0, Nat.zero_le _, rfl, s0⟩
  case round =>
    clear s0
    obtain ⟨k, hk, rfl, hs⟩ := hrel
    by_cases hlt : k < F.code.length
    · obtain ⟨m1, m2⟩ := insAt_mem (code := F.code) (pc := (k : Int)) (by omega) (by omega)
      rw [Int.toNat_natCast] at m1
      obtain ⟨ib, io, hix, hib, i0, i1, i2, i3, i4⟩ := ins_ix (hFH.out.later hs.out.b).1 k _ m1
      have hio := (hFH.out.2.2.1 _ m2).1
      have hmore : Hid (∀ v, v = (s k && prog.loc (insAt F.code k).op) → (fun b => if b = k then v else lcT F.fn s k b) = lcT F.fn s (k + 1)) := fun v hv => lcT_more F.fn s k v hv
      generalize insAt F.code k = i at *
      have hkI : (k : Int) < F.code.length := by omega
      have hk64 : k < 64 := by omega
      have xI := ix_pl (w.heap.size + 1) k hk64
      have hbn := boxed wr (.cells #[.int .i64 i.op, .int .i64 i.a, .int .i64 i.b, .int .i64 i.c, .int .i64 i.n] 72)
      have hCn : (wr.alloc (.cells #[.int .i64 i.op, .int .i64 i.a, .int .i64 i.b, .int .i64 i.c, .int .i64 i.n] 72)).heap[wr.heap.size]? = some (.cells #[.int .i64 i.op, .int .i64 i.a, .int .i64 i.b, .int .i64 i.c, .int .i64 i.n] 72) := heap_alloc_new wr _
      have j0 := cell_ofF (k := 0) (v := .int .i64 i.op) hCn rfl
      have hs2 : Hid (GA w (wr.alloc (.cells #[.int .i64 i.op, .int .i64 i.a, .int .i64 i.b, .int .i64 i.c, .int .i64 i.n] 72)) F (lcT F.fn s k)) := hs.out.later hbn
      have cI := cell_ofF (k := k) (v := .bool (lcT F.fn s k k)) hs2.out.s (boolRow_at hk64)
      have fI := frozen_of_row _ _ k _ _ hs2.out.s
      rw [lcT_at] at cI
      have nx : Hid (∀ v W', W' = (wr.alloc (.cells #[.int .i64 i.op, .int .i64 i.a, .int .i64 i.b, .int .i64 i.c, .int .i64 i.n] 72)).setCell ⟨w.heap.size + 1, k, none⟩ (.bool v) → v = (s k && prog.loc i.op) → GA w W' F (lcT F.fn s (k + 1))) := fun v W' e hv => by
        have h1 := hs2.out
        have hl := h1.lt
        rw [e]
        refine ⟨h1.b.setCell (p := ⟨w.heap.size + 1, k, none⟩) (by show w.heap.size ≤ w.heap.size + 1; omega) _, (Below.heap_setCell _ _ _ _ (by show w.heap.size ≠ w.heap.size + 1; omega)).trans h1.f, ?_, (Below.heap_setCell _ _ _ _ (by show w.heap.size + 1 + 1 ≠ w.heap.size + 1; omega)).trans h1.r⟩
        rw [setCell_eq_setRow _ (w.heap.size + 1) k _ _ _ _ h1.s, boolRow_set, setRow_heap _ (w.heap.size + 1) _ _ _ _ h1.s, hmore.out v hv]
      have cL := prog.local_any i.op hio.1 hio.2 (wr.alloc (.cells #[.int .i64 i.op, .int .i64 i.a, .int .i64 i.b, .int .i64 i.c, .int .i64 i.n] 72)) (hPH.out.later hs2.out.b) (prog.loc i.op) rfl
      clear hbn hCn hs m1 m2 hib hmore hio
      obtain ⟨bk, hbk⟩ : ∃ bk, s k = bk := ⟨_, rfl⟩
      rw [hbk] at cI
      cases bk with
      | false =>
        have nx2 : Hid (∀ W', W' = (wr.alloc (.cells #[.int .i64 i.op, .int .i64 i.a, .int .i64 i.b, .int .i64 i.c, .int .i64 i.n] 72)).setCell ⟨w.heap.size + 1, k, none⟩ (.bool false) → GA w W' F (lcT F.fn s (k + 1))) := fun W' e => nx.out false W' e (by rw [hbk]; rfl)
        clear hbk nx cL
        go_wp2_with (refine wpList_putb rfl 4 _ _ rfl ⟨w.heap.size + 1, k, none⟩ rfl false rfl (by kernel_rfl) _ cI fI ?_; intro W1 hW1; (have hV2 : Hid (GA w W1 F (lcT F.fn s (k + 1))) := nx2.out W1 hW1); clear hW1)
        try simp only [Act.put, List.setIfInBounds_toArray, List.set_cons_zero, List.set_cons_succ]
        go_roundw
        case rel => exact ⟨k + 1, by omega, by go_num, hV2⟩
        case measure => simp [intOf]; omega
      | true =>
        have nx2 : Hid (∀ W', W' = (wr.alloc (.cells #[.int .i64 i.op, .int .i64 i.a, .int .i64 i.b, .int .i64 i.c, .int .i64 i.n] 72)).setCell ⟨w.heap.size + 1, k, none⟩ (.bool (prog.loc i.op)) → GA w W' F (lcT F.fn s (k + 1))) := fun W' e => nx.out _ W' e (by rw [hbk]; rfl)
        clear hbk nx
        generalize prog.loc i.op = lb at *
        go_wp2_with (first
          | (go_at_call 55; (refine cL.mono ?_); rintro e w2 ⟨rfl, hw2⟩; replace hw2 := hw2.symm; subst hw2)
          | (refine wpList_putb rfl 4 _ _ rfl ⟨w.heap.size + 1, k, none⟩ rfl lb rfl (by kernel_rfl) _ cI fI ?_; intro W1 hW1; (have hV2 : Hid (GA w W1 F (lcT F.fn s (k + 1))) := nx2.out W1 hW1); clear hW1))
        try simp only [Act.put, List.setIfInBounds_toArray, List.set_cons_zero, List.set_cons_succ]
        go_roundw
        case rel => exact ⟨k + 1, by omega, by go_num, hV2⟩
        case measure => simp [intOf]; omega
    · have hke : k = F.code.length := by omega
      have hkI : ¬ ((k : Int) < F.code.length) := by omega
      have hs1 : Hid (GA w wr F (lcT F.fn s F.code.length)) := by have := hs.out; rw [hke] at this; exact this
      have hS := hs1.out.s
      have hR := hs1.out.r
      clear hs hke
      go_wp2_with (first
        | (refine wpList_load_row rfl 60 _ rfl (w.heap.size + 1) rfl _ _ _ _ hS huP.out rfl (infoSt _) ?_)
        | (refine wpList_store_row rfl 60 _ _ rfl (w.heap.size + 1 + 1) (boolRow 64 (lcT F.fn s F.code.length)) rfl rfl _ _ hR (infoSt _) (by rw [boolRow_size, boolRow_size]) (boolRow_one _ _) ?_))
      exact bodyPost_ret (results_pl Tryd.results39 _ _ (w.heap.size + 1 + 1) _ rfl (setRow_heap _ _ _ _ _ _ hR)) rfl ⟨rfl, below_rowN hs1.out.b (by omega)⟩
end Go.Proofs.YtmgmiaonljcfcaaDoor.pg
/- How long it runs along: package flow's Longest. -/
namespace Go.Proofs.YtmgmiaonljcfcaaDoor.pg
open Go.ChangeShapes Go.WideShapes Go.ChangeAt Go.RowKit Go.Shelf
set_option linter.unusedVariables false
set_option linter.unusedSimpArgs false
set_option maxRecDepth 100000
/-- The ends of the local ways with so many instructions more than one. -/
def endsF (f : Fn) (pc : Nat) : Nat → Nat → Bool
  | 0 => lcT f (onePl pc) f.code.length
  | n + 1 => lcT f (bAll f (endsF f pc n) f.code.length) f.code.length
def noneP (s : Nat → Bool) : Prop := ∀ k, k < 64 → s k = false
def LngR (f : Fn) (pc : Nat) (r : Int) : Prop := (∃ n : Nat, n ≤ f.code.length ∧ noneP (endsF f pc n) ∧ (∀ m, m < n → ¬ noneP (endsF f pc m)) ∧ r = n) ∨ ((∀ m, m ≤ f.code.length → ¬ noneP (endsF f pc m)) ∧ r = -1)
theorem bld_P0 (w : World) : (Instr.build 60 #[]).run Tryd.prog w = .ok (.agg (boolRow 64 fun _ => false)) w := by kernel_rfl
theorem wpList_bldF {P : Program} {ops : Array Oper} {rest : List Oper} {o : Oper} {a : Act} {w : World} {Q : Exit → Act → World → Prop} (hgd : o.guard = none) (t : TypeId) (parts : Array (Nat × Operand)) (ho : o.op = .build t parts) (vs : Array (Nat × Value)) (hp : (parts.map fun (i, x) => (i, a.eval x)) = vs) (v : Value) (hr : ∀ w, (Instr.build t vs).run P w = .ok v w)
    (h : wpList P ops Q rest (a.put o.dst v) w) : wpList P ops Q (o :: rest) a w := wpList_plain hgd fun K hK => by
  unfold Oper.wp execOp
  simp only [ho, hp, Sem.run_bind, Sem.run_pure, Result.andThen_ok, hr]
  exact hK _ _ h
theorem neS_run (f g : Nat → Bool) (w : World) : (binOp .neq 60 (.agg (boolRow 64 f)) (.agg (boolRow 64 g))).run Tryd.prog w = .ok (.bool (!((List.range 64).all fun k => f k == g k))) w := by
  obtain ⟨i, hi⟩ := infoB_some
  have hc1 : Tryd.prog.cellsOf 4 = 1 := by kernel_rfl
  have h : (Op.equalIn 10000 60 (.agg (boolRow 64 f)) (.agg (boolRow 64 g))).run Tryd.prog w = .ok ((List.range 64).all fun k => f k == g k) w := by
    rw [show (10000 : Nat) = 9999 + 1 from rfl, run_equalIn_array w 9999 _ _ Tryd.underlying60 hi, hc1]
    exact run_eqS f g w _ fun k hk => List.mem_range.mp hk
  rw [run_neq_struct, h]; rfl
def OthF (W : World) (B : Nat) (w' : World) : Prop := ∀ b, b < W.heap.size → b ≠ B → w'.heap[b]? = W.heap[b]?
theorem othF_later {W w' w2 : World} {B : Nat} (h : OthF W B w') (hs : W.heap.size ≤ w'.heap.size) (hb : Below w'.heap.size w' w2) : OthF W B w2 := fun b h1 h2 => (hb.block b (by omega)).trans (h b h1 h2)
section
variable {P : Program} {ops : Array Oper} {Q : Exit → Act → World → Prop} {S : World → Prop} {fuel : Nat} {listed : Array Bool} {a : Act} {w : World}
theorem arm_callF {i : Nat} {o : Oper} (hw : Region.wanted o (yielded ops a.tmps) = true) (f : FuncId) (xs : Array Operand) (ts : Array TypeId)
    (hc0 : o.op = .call { callee := .value (.func f), args := xs, argTypes := ts }) (vs : Array Value) (hx : xs.map a.eval = vs) (hcf : (callFunc f vs).run P w = .ok (.enter f vs) w) (R : Ending → World → Prop) (hc : Calls P f vs w R)
    (hK : ∀ e w', R e w' → ∃ v, e = .returned v ∧ S w' ∧ (S w' → wpAnyH P .any ops Q S fuel (listed.setIfInBounds i true) (a.put o.dst v) w')) :
    ∀ K' : Act → World → Prop, Shut (∀ a w, S w → (S w → wpAnyH P .any ops Q S fuel (listed.setIfInBounds i true) a w) → K' a w) → if Region.wanted o (yielded ops a.tmps) = true then Oper.wp P o a w K' Q else K' (a.put o.dst undef) w := fun K hK2 => by
  rw [if_pos hw]
  have hrun : (execOp a.eval o).run P w = .ok (.enter f vs) w := by
    have hf : a.eval (.func f) = .func (.func f) #[] #[] := rfl
    simp [execOp, hc0, resolve, invoke, hx, hf, Deferred.ofValue, hcf]
  unfold Oper.wp
  rw [hrun, Oper.upon_enter]
  refine hc.mono fun e w' h => ?_
  obtain ⟨v, rfl, hs, hk⟩ := hK e w' h
  exact hK2.out _ _ hs hk
/-- A call of one argument, or something else. -/
theorem reg_ca1 {i j : Nat} {o p : Oper} (hr : Region.ready .any ops listed = [i, j]) (ho : ops[i]? = some o) (hp : ops[j]? = some p) (hw : Region.wanted o (yielded ops a.tmps) = true) (hw2 : Region.wanted p (yielded ops a.tmps) = true) (f : FuncId) (x : Operand) (t : TypeId)
    (hc0 : o.op = .call { callee := .value (.func f), args := #[x], argTypes := #[t] }) (v : Value) (hx : a.eval x = v) (hcf : (callFunc f #[v]).run P w = .ok (.enter f #[v]) w) (R : Ending → World → Prop) (hc : Calls P f #[v] w R)
    (hK : ∀ e w', R e w' → ∃ v, e = .returned v ∧ S w' ∧ (S w' → wpAnyH P .any ops Q S fuel (listed.setIfInBounds i true) (a.put o.dst v) w'))
    (h2 : wpList P ops (okQ fun a' w' => S w' ∧ (S w' → wpAnyH P .any ops Q S fuel (listed.setIfInBounds j true) a' w')) [p] a w) :
    wpAnyH P .any ops Q S (fuel + 1) listed a w := wpAnyH_ready hr (by simp) (AllReadyH.cons ho (arm_callF hw f #[x] #[t] hc0 #[v] (by simp [hx]) hcf R hc hK) (AllReadyH.cons hp (arm_list hw2 h2) AllReadyH.nil))
/-- A call of two, or something else. -/
theorem reg_ca2 {i j : Nat} {o p : Oper} (hr : Region.ready .any ops listed = [i, j]) (ho : ops[i]? = some o) (hp : ops[j]? = some p) (hw : Region.wanted o (yielded ops a.tmps) = true) (hw2 : Region.wanted p (yielded ops a.tmps) = true) (f : FuncId) (x y : Operand) (t u : TypeId)
    (hc0 : o.op = .call { callee := .value (.func f), args := #[x, y], argTypes := #[t, u] }) (v v2 : Value) (hx : a.eval x = v) (hy : a.eval y = v2) (hcf : (callFunc f #[v, v2]).run P w = .ok (.enter f #[v, v2]) w) (R : Ending → World → Prop) (hc : Calls P f #[v, v2] w R)
    (hK : ∀ e w', R e w' → ∃ v, e = .returned v ∧ S w' ∧ (S w' → wpAnyH P .any ops Q S fuel (listed.setIfInBounds i true) (a.put o.dst v) w'))
    (h2 : wpList P ops (okQ fun a' w' => S w' ∧ (S w' → wpAnyH P .any ops Q S fuel (listed.setIfInBounds j true) a' w')) [p] a w) :
    wpAnyH P .any ops Q S (fuel + 1) listed a w := wpAnyH_ready hr (by simp) (AllReadyH.cons ho (arm_callF hw f #[x, y] #[t, u] hc0 #[v, v2] (by simp [hx, hy]) hcf R hc hK) (AllReadyH.cons hp (arm_list hw2 h2) AllReadyH.nil))
end
/-- Where all lies while ways are gone along. -/
structure LO (w W : World) (F : MFn) (FX EB : Nat) (s : Nat → Bool) : Prop where
  b : Below w.heap.size w W
  f : W.heap[FX]? = some (objFn F)
  e : W.heap[EB]? = some (objPl s)
  n : w.heap.size < FX ∧ FX < EB
theorem LO.lt {w W : World} {F : MFn} {FX EB : Nat} {s : Nat → Bool} (h : LO w W F FX EB s) : EB < W.heap.size := (Array.getElem?_eq_some_iff.mp h.e).1
theorem LO.later {w W W' : World} {F : MFn} {FX EB : Nat} {s : Nat → Bool} (h : LO w W F FX EB s) (hb : Below W.heap.size W W') : LO w W' F FX EB s := ⟨bthen h.b hb, (hb.block FX (by have := h.lt; have := h.n.2; omega)).trans h.f, (hb.block EB h.lt).trans h.e, h.n⟩
theorem LO.rg {w W : World} {F : MFn} {FX EB : Nat} {s : Nat → Bool} (h : LO w W F FX EB s) {w' : World} (hk : w'.heap[FX]? = W.heap[FX]?) : w'.rangeAt FX 0 ([.int .i64 F.params, .int .i64 F.regs, .slice F.ca F.code.length F.ccap, .slice F.sa F.sels.length F.scap] : List Value) := fun j v hj => by
  have hf := hk.trans h.f
  match j, hj with
  | 0, hj => cases hj; exact cell_ofF hf rfl
  | 1, hj => cases hj; exact cell_ofF hf rfl
  | 2, hj => cases hj; exact cell_ofF hf rfl
  | 3, hj => cases hj; exact cell_ofF hf rfl
set_option maxHeartbeats 4000000 in
theorem flong_ok (M : MPr) (f : Int) (pc : Nat) (w : World) (hM : M.lies w) (hF : prog.Forms w) (F : MFn) (hFi : M.fns[f.toNat]? = some F) (hfl : FlowF F.fn) (f0 : 0 ≤ f) (hpc : pc < F.code.length) (hfit : fitP M.pr f pc = 0) :
    Calls Tryd.prog 10 #[M.val, .int .i64 f, .int .i64 (pc : Int)] w fun e w' => ∃ r, e = .returned (.tuple #[.int .i64 r, .int .i64 0]) ∧ LngR F.fn pc r ∧ Below w.heap.size w w' := by
  have hb := boxed w (objP M)
  have bP := boxP_new w M
  have hFm := List.mem_of_getElem? hFi
  have hcall := fcheckPlace_any M f (pc : Int) _ (hM.later hb) (hF.later hb) 0 hfit.symm
  have hMH : Hid (M.lies w) := hM
  have hPH : Hid (prog.Forms w) := hF
  have huP : Hid (Tryd.prog.underlying 60 = _) := Tryd.underlying60
  have hzP : Hid (∀ w, (zeroValue 60).run Tryd.prog w = .ok (.agg (boolRow 64 fun _ => false)) w) := zeroSt
  have bPH : Hid (BoxP (w.alloc (objP M)) w.heap.size M) := bP
  have hbH : Hid (Below w.heap.size w (w.alloc (objP M))) := hb
  have hl64 : pc < 64 := by have := hfl.l64; have h : F.fn.code.length = F.code.length := rfl; omega
  have hc64 : (F.code.length : Int) ≤ 64 := by have := hfl.l64; have h : F.fn.code.length = F.code.length := rfl; omega
  obtain ⟨fb, fo, hfix, hfb, fc0, fc1, fc2, fc3⟩ := fn_ix (hM.later hb).2.2.1 f.toNat F hFi
  rw [show ((f.toNat : Nat) : Int) = f by omega] at hfix
  have hfc : Hid (∀ w', Below (w.alloc (objP M)).heap.size (w.alloc (objP M)) w' → w'.cell? ⟨fb, fo, none⟩ = some (.int .i64 F.params) ∧ w'.cell? ⟨fb, fo + 1, none⟩ = some (.int .i64 F.regs) ∧ w'.cell? ⟨fb, fo + 2, none⟩ = some (.slice F.ca F.code.length F.ccap) ∧ w'.cell? ⟨fb, fo + 3, none⟩ = some (.slice F.sa F.sels.length F.scap)) := fun w' h' => ⟨cell_later h' fc0, cell_later h' fc1, cell_later h' fc2, cell_later h' fc3⟩
  have hlF : Hid (F.lies w) := hM.2.2.2.2.2.2 F hFm
  clear hM hF hfit hb fc0 fc1 fc2 fc3 hfb
  go_enter Tryd.func10, Tryd.ntmps10
  go_upto_region 5 with (go_at_call 33; (with_reducible refine hcall.mono ?_); rintro e w2 ⟨rfl, hb2⟩; clear bP; obtain ⟨k0, k1, k2, k3⟩ := hfc.out w2 hb2; (have p3 := (bPH.out.later hb2).2.2.2))
  have hbW : Below w.heap.size w (w2.alloc (objFn F)) := bthen (bthen hbH.out hb2) (boxed _ _)
  have hFX : (w2.alloc (objFn F)).heap[w2.heap.size]? = some (objFn F) := heap_alloc_new w2 _
  have hlx : w.heap.size < w2.heap.size := by have := hb2.size; rw [World.size_alloc] at this; omega
  clear hcall k0 k1 k2 k3 p3 hb2 hfix hfc
  generalize w2.alloc (objFn F) = V at *
  generalize w2.heap.size = FX at *
  have hFXl : FX < V.heap.size := (Array.getElem?_eq_some_iff.mp hFX).1
  have hH : Below V.heap.size V V.drew := bey_drew V
  have hrF : ∀ w', Below V.heap.size V w' → w'.rangeAt FX 0 ([.int .i64 F.params, .int .i64 F.regs, .slice F.ca F.code.length F.ccap, .slice F.sa F.sels.length F.scap] : List Value) := fun w' h' j v hj => by
    have hf := (h'.block FX hFXl).trans hFX
    match j, hj with
    | 0, hj => cases hj; exact cell_ofF hf rfl
    | 1, hj => cases hj; exact cell_ofF hf rfl
    | 2, hj => cases hj; exact cell_ofF hf rfl
    | 3, hj => cases hj; exact cell_ofF hf rfl
  go_cut [10] (fun u wx => ∃ EB, u = .pointer (some ⟨EB, 0, none⟩) ∧ Hid (LO w wx F FX EB (endsF F.fn pc 0)))
  case first =>
    refine wp_region_held_drew (S := fun w' => Below V.heap.size V w') (by kernel_rfl) hH (fun _ => ?_)
    refine reg_load (i := 0) rfl (by kernel_rfl) (by kernel_rfl) (by kernel_rfl) (fun _ _ _ _ h => h) rfl 65 _ rfl FX 0 rfl [.int .i64 F.params, .int .i64 F.regs, .slice F.ca F.code.length F.ccap, .slice F.sa F.sels.length F.scap] _ hrF Tryd.underlying65 rfl (by kernel_rfl) hH ?_
    simp only [Act.put, List.getElem_toArray, List.getElem_cons_succ, List.getElem_cons_zero, List.setIfInBounds_toArray, List.set_cons_zero, List.set_cons_succ]
    refine reg_move (i := 1) rfl (by kernel_rfl) (by kernel_rfl) (by kernel_rfl) (fun _ _ _ _ h => h) rfl (.int .i64 (pc : Int)) (fun _ => by kernel_rfl) hH ?_
    simp only [Act.put, List.getElem_toArray, List.getElem_cons_succ, List.getElem_cons_zero, List.setIfInBounds_toArray, List.set_cons_zero, List.set_cons_succ]
    have hzC : (V.drew.alloc (objPl fun _ => false)).heap[V.drew.heap.size]? = some (objPl fun _ => false) := heap_alloc_new V.drew _
    have hAC : Below V.heap.size V (V.drew.alloc (objPl fun _ => false)) := bthen hH (boxed _ _)
    refine reg_ca1 (i := 2) (j := 4) (by kernel_rfl) rfl rfl rfl rfl 35 _ _ rfl (.int .i64 (pc : Int)) rfl (cf_fn Tryd.func35 (by kernel_rfl) (by kernel_rfl) _ _) _ (just_any pc hl64 _) ?_ (wpList_alloc_big rfl 60 rfl hzP.out (wpList_nil (And.intro hAC fun _ => ?_)))
    · rintro e3 w3 ⟨rfl, hb3⟩
      have hH3 : Below V.heap.size V w3 := bthen hH hb3
      refine ⟨_, rfl, hH3, fun _ => ?_⟩
      simp only [Act.put, List.getElem_toArray, List.getElem_cons_succ, List.getElem_cons_zero, List.setIfInBounds_toArray, List.set_cons_zero, List.set_cons_succ]
      have hzB : (w3.alloc (objPl fun _ => false)).heap[w3.heap.size]? = some (objPl fun _ => false) := heap_alloc_new w3 _
      have hAB : Below V.heap.size V (w3.alloc (objPl fun _ => false)) := bthen hH3 (boxed _ _)
      refine reg_ca2 (i := 3) (j := 4) (by kernel_rfl) rfl rfl rfl rfl 39 _ _ _ _ rfl F.val (.agg (boolRow 64 (onePl pc))) rfl rfl (cf_fn Tryd.func39 (by kernel_rfl) (by kernel_rfl) _ _) _ (locals_any F (onePl pc) w3 (hlF.out.later (bthen hbW hH3)) hfl (hPH.out.later (bthen hbW hH3))) ?_ (wpList_alloc_big rfl 60 rfl hzP.out (wpList_nil (And.intro hAB fun _ => ?_)))
      · rintro e4 w4 ⟨rfl, hb4⟩
        have hH4 : Below V.heap.size V w4 := bthen hH3 hb4
        refine ⟨_, rfl, hH4, fun _ => ?_⟩
        simp only [Act.put, List.getElem_toArray, List.getElem_cons_succ, List.getElem_cons_zero, List.setIfInBounds_toArray, List.set_cons_zero, List.set_cons_succ]
        have hzA : (w4.alloc (objPl fun _ => false)).heap[w4.heap.size]? = some (objPl fun _ => false) := heap_alloc_new w4 _
        have hAA : Below V.heap.size V (w4.alloc (objPl fun _ => false)) := bthen hH4 (boxed _ _)
        refine reg_one (i := 4) (by kernel_rfl) rfl rfl (wpList_alloc_big rfl 60 rfl hzP.out (wpList_nil (And.intro hAA fun _ => ?_)))
        simp only [Act.put, List.getElem_toArray, List.getElem_cons_succ, List.getElem_cons_zero, List.setIfInBounds_toArray, List.set_cons_zero, List.set_cons_succ]
        have hS5 : Below V.heap.size V ((w4.alloc (objPl fun _ => false)).setRow w4.heap.size (boolRow 64 (lcT F.fn (onePl pc) F.code.length))) := below_rowN hAA (by have := hH4.size; omega)
        refine reg_one (i := 5) (by kernel_rfl) rfl rfl (wpList_store_row rfl 60 _ _ rfl w4.heap.size (boolRow 64 (lcT F.fn (onePl pc) F.code.length)) rfl rfl _ _ hzA (infoSt _) (by rw [boolRow_size, boolRow_size]) (boolRow_one _ _) (wpList_nil (And.intro hS5 fun _ => ?_)))
        simp only [Act.put, List.getElem_toArray, List.getElem_cons_succ, List.getElem_cons_zero, List.setIfInBounds_toArray, List.set_cons_zero, List.set_cons_succ]
        refine wpAnyH_done (by kernel_rfl) ?_ _
        go_wp2_with fail
        go_meet
        case rel => exact ⟨w4.heap.size, rfl, bthen hbW hS5, (hS5.block FX hFXl).trans hFX, setRow_heap _ _ _ _ _ _ hzA, hlx, by have := hH4.size; omega⟩
      · simp only [Act.put, List.getElem_toArray, List.getElem_cons_succ, List.getElem_cons_zero, List.setIfInBounds_toArray, List.set_cons_zero, List.set_cons_succ]
        refine reg_call2 (i := 3) (by kernel_rfl) rfl rfl 39 _ _ _ _ rfl F.val (.agg (boolRow 64 (onePl pc))) rfl rfl (cf_fn Tryd.func39 (by kernel_rfl) (by kernel_rfl) _ _) _ (locals_any F (onePl pc) _ (hlF.out.later (bthen hbW hAB)) hfl (hPH.out.later (bthen hbW hAB))) ?_
        rintro e4 w4 ⟨rfl, hb4⟩
        have hH4 : Below V.heap.size V w4 := bthen hAB hb4
        refine ⟨_, rfl, hH4, fun _ => ?_⟩
        simp only [Act.put, List.getElem_toArray, List.getElem_cons_succ, List.getElem_cons_zero, List.setIfInBounds_toArray, List.set_cons_zero, List.set_cons_succ]
        have hzB4 : w4.heap[w3.heap.size]? = some (objPl fun _ => false) := (hb4.block _ (by rw [World.size_alloc]; omega)).trans hzB
        have hS5 : Below V.heap.size V (w4.setRow w3.heap.size (boolRow 64 (lcT F.fn (onePl pc) F.code.length))) := below_rowN hH4 (by have := hH3.size; omega)
        refine reg_one (i := 5) (by kernel_rfl) rfl rfl (wpList_store_row rfl 60 _ _ rfl w3.heap.size (boolRow 64 (lcT F.fn (onePl pc) F.code.length)) rfl rfl _ _ hzB4 (infoSt _) (by rw [boolRow_size, boolRow_size]) (boolRow_one _ _) (wpList_nil (And.intro hS5 fun _ => ?_)))
        simp only [Act.put, List.getElem_toArray, List.getElem_cons_succ, List.getElem_cons_zero, List.setIfInBounds_toArray, List.set_cons_zero, List.set_cons_succ]
        refine wpAnyH_done (by kernel_rfl) ?_ _
        go_wp2_with fail
        go_meet
        case rel => exact ⟨w3.heap.size, rfl, bthen hbW hS5, (hS5.block FX hFXl).trans hFX, setRow_heap _ _ _ _ _ _ hzB4, hlx, by have := hH3.size; omega⟩
    · simp only [Act.put, List.getElem_toArray, List.getElem_cons_succ, List.getElem_cons_zero, List.setIfInBounds_toArray, List.set_cons_zero, List.set_cons_succ]
      refine reg_call1 (i := 2) (by kernel_rfl) rfl rfl 35 _ _ rfl (.int .i64 (pc : Int)) rfl (cf_fn Tryd.func35 (by kernel_rfl) (by kernel_rfl) _ _) _ (just_any pc hl64 _) ?_
      rintro e3 w3 ⟨rfl, hb3⟩
      have hH3 : Below V.heap.size V w3 := bthen hAC hb3
      refine ⟨_, rfl, hH3, fun _ => ?_⟩
      simp only [Act.put, List.getElem_toArray, List.getElem_cons_succ, List.getElem_cons_zero, List.setIfInBounds_toArray, List.set_cons_zero, List.set_cons_succ]
      refine reg_call2 (i := 3) (by kernel_rfl) rfl rfl 39 _ _ _ _ rfl F.val (.agg (boolRow 64 (onePl pc))) rfl rfl (cf_fn Tryd.func39 (by kernel_rfl) (by kernel_rfl) _ _) _ (locals_any F (onePl pc) w3 (hlF.out.later (bthen hbW hH3)) hfl (hPH.out.later (bthen hbW hH3))) ?_
      rintro e4 w4 ⟨rfl, hb4⟩
      have hH4 : Below V.heap.size V w4 := bthen hH3 hb4
      refine ⟨_, rfl, hH4, fun _ => ?_⟩
      simp only [Act.put, List.getElem_toArray, List.getElem_cons_succ, List.getElem_cons_zero, List.setIfInBounds_toArray, List.set_cons_zero, List.set_cons_succ]
      have hzC3 : w3.heap[V.heap.size]? = some (objPl fun _ => false) := (hb3.block _ (by rw [World.size_alloc]; exact Nat.lt_succ_self _)).trans hzC
      have hzC4 : w4.heap[V.heap.size]? = some (objPl fun _ => false) := (hb4.block _ (Array.getElem?_eq_some_iff.mp hzC3).1).trans hzC3
      have hS5 : Below V.heap.size V (w4.setRow V.heap.size (boolRow 64 (lcT F.fn (onePl pc) F.code.length))) := below_rowN hH4 (by omega)
      refine reg_one (i := 5) (by kernel_rfl) rfl rfl (wpList_store_row rfl 60 _ _ rfl V.heap.size (boolRow 64 (lcT F.fn (onePl pc) F.code.length)) rfl rfl _ _ hzC4 (infoSt _) (by rw [boolRow_size, boolRow_size]) (boolRow_one _ _) (wpList_nil (And.intro hS5 fun _ => ?_)))
      simp only [Act.put, List.getElem_toArray, List.getElem_cons_succ, List.getElem_cons_zero, List.setIfInBounds_toArray, List.set_cons_zero, List.set_cons_succ]
      refine wpAnyH_done (by kernel_rfl) ?_ _
      go_wp2_with fail
      go_meet
      case rel => exact ⟨V.heap.size, rfl, bthen hbW hS5, (hS5.block FX hFXl).trans hFX, setRow_heap _ _ _ _ _ _ hzC4, hlx, by omega⟩
  case rest =>
    obtain ⟨EB, rfl, i0⟩ := hcut
    clear hH hrF
    go_wp2_with fail
    go_loopw [11] (fun u wr => ∃ n : Nat, n ≤ F.code.length ∧ u = .int .i64 (n : Int) ∧ Hid (LO w wr F FX EB (endsF F.fn pc n) ∧ ∀ m, m < n → ¬ noneP (endsF F.fn pc m))) (fun u _ => F.code.length + 1 - (intOf u).toNat)
    case atStart => exact ⟨0, Nat.zero_le _, rfl, i0.out, fun m hm => by omega⟩
    case round =>
      clear i0
      obtain ⟨n, hn, rfl, hs⟩ := hrel
      have hE := hs.out.1.e
      have hfx := hs.out.1.f
      have f2 := cell_ofF (k := 2) (v := .slice F.ca F.code.length F.ccap) hfx rfl
      have ne1 := neS_run (endsF F.fn pc n) (fun _ => false)
      obtain ⟨eb, heb⟩ : ∃ eb, Hid (((List.range 64).all fun k => endsF F.fn pc n k == (fun _ => false) k) = eb) := ⟨_, rfl⟩
      rw [heb.out] at ne1
      cases eb with
      | true =>
        have hno : Hid (noneP (endsF F.fn pc n)) := pl_same.mp heb.out
        clear heb
        go_wp2_with (first
          | (refine wpList_load_row rfl 60 _ rfl EB rfl _ _ _ _ hE huP.out rfl (infoSt _) ?_)
          | (refine wpList_bldF rfl 60 _ rfl #[] (by simp) _ bld_P0 ?_))
        go_ret2
        exact ⟨n, rfl, .inl ⟨n, hn, hno.out, hs.out.2, rfl⟩, hs.out.1.b⟩
      | false =>
        have hno : Hid (¬ noneP (endsF F.fn pc n)) := fun q => by
          have : ((List.range 64).all fun k => endsF F.fn pc n k == (fun _ => false) k) = true := pl_same.mpr q
          rw [heb.out] at this
          cases this
        clear heb
        by_cases hnl : n = F.code.length
        · have hfin : Hid (∀ m, m ≤ F.code.length → ¬ noneP (endsF F.fn pc m)) := fun m hm => by
            by_cases c : m = n
            · subst c; exact hno.out
            · exact hs.out.2 m (by omega)
          subst hnl
          go_wp2_with (first
            | (refine wpList_load_row rfl 60 _ rfl EB rfl _ _ _ _ hE huP.out rfl (infoSt _) ?_)
            | (refine wpList_bldF rfl 60 _ rfl #[] (by simp) _ bld_P0 ?_))
          go_ret2
          exact ⟨-1, rfl, .inr ⟨hfin.out, rfl⟩, hs.out.1.b⟩
        · have d1 : ((n : Int) == (F.code.length : Int)) = false := by rw [beq_eq_false_iff_ne]; omega
          have d2 : (n == F.code.length) = false := by simpa using hnl
          have hnI : (n : Int) < 64 := by omega
          go_upto_region 11 with (first
            | (refine wpList_load_row rfl 60 _ rfl EB rfl _ _ _ _ hE huP.out rfl (infoSt _) ?_)
            | (refine wpList_bldF rfl 60 _ rfl #[] (by simp) _ bld_P0 ?_))
          clear f2 ne1 d1 d2
          have hO := hs.out.1
          have hOn := hO.n
          have hEl := hO.lt
          have hH : OthF wr EB wr.drew := fun _ _ _ => rfl
          have hrF : ∀ w', OthF wr EB w' → w'.rangeAt FX 0 ([.int .i64 F.params, .int .i64 F.regs, .slice F.ca F.code.length F.ccap, .slice F.sa F.sels.length F.scap] : List Value) := fun w' h' => hO.rg (h' FX (by omega) (by omega))
          refine wp_region_held_drew (S := OthF wr EB) (by kernel_rfl) hH (fun _ => ?_)
          refine reg_load (i := 0) rfl (by kernel_rfl) (by kernel_rfl) (by kernel_rfl) (fun _ _ _ _ h => h) rfl 65 _ rfl FX 0 rfl [.int .i64 F.params, .int .i64 F.regs, .slice F.ca F.code.length F.ccap, .slice F.sa F.sels.length F.scap] _ hrF Tryd.underlying65 rfl (by kernel_rfl) hH ?_
          simp only [Act.put, List.getElem_toArray, List.getElem_cons_succ, List.getElem_cons_zero, List.setIfInBounds_toArray, List.set_cons_zero, List.set_cons_succ]
          refine reg_load (i := 1) rfl (by kernel_rfl) (by kernel_rfl) (by kernel_rfl) (fun _ _ _ _ h => h) rfl 65 _ rfl FX 0 rfl [.int .i64 F.params, .int .i64 F.regs, .slice F.ca F.code.length F.ccap, .slice F.sa F.sels.length F.scap] _ hrF Tryd.underlying65 rfl (by kernel_rfl) hH ?_
          simp only [Act.put, List.getElem_toArray, List.getElem_cons_succ, List.getElem_cons_zero, List.setIfInBounds_toArray, List.set_cons_zero, List.set_cons_succ]
          refine reg_one (i := 2) (by kernel_rfl) rfl rfl (wpList_load_row rfl 60 _ rfl EB rfl _ _ _ _ (show wr.drew.heap[EB]? = _ from hE) huP.out rfl (infoSt _) (wpList_nil (And.intro hH fun _ => ?_)))
          simp only [Act.put, List.getElem_toArray, List.getElem_cons_succ, List.getElem_cons_zero, List.setIfInBounds_toArray, List.set_cons_zero, List.set_cons_succ]
          refine reg_call2 (i := 3) (by kernel_rfl) rfl rfl 34 _ _ _ _ rfl F.val (.agg (boolRow 64 (endsF F.fn pc n))) rfl rfl (cf_fn Tryd.func34 (by kernel_rfl) (by kernel_rfl) _ _) _ (behindAll_any F (endsF F.fn pc n) wr.drew (hlF.out.later (bthen hO.b (bey_drew wr))) hfl) ?_
          rintro e6 w6 ⟨rfl, hb6⟩
          have hH6 : OthF wr EB w6 := othF_later hH (Nat.le_refl _) hb6
          refine ⟨_, rfl, hH6, fun _ => ?_⟩
          simp only [Act.put, List.getElem_toArray, List.getElem_cons_succ, List.getElem_cons_zero, List.setIfInBounds_toArray, List.set_cons_zero, List.set_cons_succ]
          have hO6 : LO w w6 F FX EB (endsF F.fn pc n) := (hO.later (bey_drew wr)).later hb6
          refine reg_call2 (i := 4) (by kernel_rfl) rfl rfl 39 _ _ _ _ rfl F.val (.agg (boolRow 64 (bAll F.fn (endsF F.fn pc n) F.code.length))) rfl rfl (cf_fn Tryd.func39 (by kernel_rfl) (by kernel_rfl) _ _) _ (locals_any F _ w6 (hlF.out.later hO6.b) hfl (hPH.out.later hO6.b)) ?_
          rintro e7 w7 ⟨rfl, hb7⟩
          have hs67 : wr.heap.size ≤ w6.heap.size := hb6.size
          have hH7 : OthF wr EB w7 := othF_later hH6 hs67 hb7
          refine ⟨_, rfl, hH7, fun _ => ?_⟩
          simp only [Act.put, List.getElem_toArray, List.getElem_cons_succ, List.getElem_cons_zero, List.setIfInBounds_toArray, List.set_cons_zero, List.set_cons_succ]
          have hO7 : LO w w7 F FX EB (endsF F.fn pc n) := hO6.later hb7
          have hH8 : OthF wr EB (w7.setRow EB (boolRow 64 (lcT F.fn (bAll F.fn (endsF F.fn pc n) F.code.length) F.code.length))) := fun b h1 h2 => (setRow_other _ _ _ _ h2).trans (hH7 b h1 h2)
          refine reg_one (i := 5) (by kernel_rfl) rfl rfl (wpList_store_row rfl 60 _ _ rfl EB (boolRow 64 (lcT F.fn (bAll F.fn (endsF F.fn pc n) F.code.length) F.code.length)) rfl rfl _ _ hO7.e (infoSt _) (by rw [boolRow_size, boolRow_size]) (boolRow_one _ _) (wpList_nil (And.intro hH8 fun _ => ?_)))
          simp only [Act.put, List.getElem_toArray, List.getElem_cons_succ, List.getElem_cons_zero, List.setIfInBounds_toArray, List.set_cons_zero, List.set_cons_succ]
          refine wpAnyH_done (by kernel_rfl) ?_ _
          have hnx : Hid (LO w (w7.setRow EB (boolRow 64 (lcT F.fn (bAll F.fn (endsF F.fn pc n) F.code.length) F.code.length))) F FX EB (endsF F.fn pc (n + 1)) ∧ ∀ m, m < n + 1 → ¬ noneP (endsF F.fn pc m)) := ⟨⟨below_rowN hO7.b (by omega), (setRow_other _ _ _ _ (by omega)).trans hO7.f, setRow_heap _ _ _ _ _ _ hO7.e, hOn⟩, fun m hm => by
            by_cases c : m = n
            · subst c; exact hno.out
            · exact hs.out.2 m (by omega)⟩
          clear hH8 hH7 hH6 hH hrF hb7 hb6 hO7 hO6 hO hs hno hE hfx
          generalize w7.setRow EB (boolRow 64 (lcT F.fn (bAll F.fn (endsF F.fn pc n) F.code.length) F.code.length)) = V2 at *
          go_wp2
          go_roundw
          case rel => exact ⟨n + 1, by omega, by go_num, hnx⟩
          case measure => simp [intOf]; omega
end Go.Proofs.YtmgmiaonljcfcaaDoor.pg
/- The contracts of the document's own looks at operands. -/
namespace Go.Proofs.YtmgmiaonljcfcaaDoor.pg
open Go.ChangeShapes Go.WideShapes Go.ChangeAt Go.RowKit
set_option linter.unusedVariables false
set_option linter.unusedSimpArgs false
set_option maxRecDepth 100000
theorem within_t (x n : Int) (w : World) (h : 0 ≤ x ∧ x < n) : Calls Tryd.prog 67 #[.int .i64 x, .int .i64 n] w fun e w' => e = .returned (.bool true) ∧ w' = w := by
  obtain ⟨h1, h2⟩ := h
  go_enter Tryd.func67, Tryd.ntmps67
  go_wp2
  go_ret
  exact ⟨rfl, rfl⟩
theorem within_f (x n : Int) (w : World) (h : x < 0 ∨ n ≤ x) : Calls Tryd.prog 67 #[.int .i64 x, .int .i64 n] w fun e w' => e = .returned (.bool false) ∧ w' = w := by
  by_cases h1 : 0 ≤ x
  · have h2 : ¬ x < n := by omega
    go_enter Tryd.func67, Tryd.ntmps67
    go_wp2
    go_ret
    exact ⟨rfl, rfl⟩
  · clear h
    go_enter Tryd.func67, Tryd.ntmps67
    go_wp2
    go_ret
    exact ⟨rfl, rfl⟩
section
variable (M : MPr) (f : MFn) (i : Ins) (x : Int) (w : World) (r : Int) (l : Int)
abbrev opR (l : Int) : Int := opndE (roomR (M.pr.par i.b) x f.regs) M.pr f.fn l x
theorem rop_r_t (h : 0 ≤ x ∧ x < f.regs) (hr : Hid (opR M f i x 114 = r)) : Calls Tryd.prog 70 #[M.val, f.val, .int .u8 114, .int .i64 x, i.val] w fun e w' => e = .returned (.int .i64 r) ∧ Below w.heap.size w w' := by
  have hv : Hid (r = 0) := hr.out.symm.trans (by
    have h' : inR x f.fn.regs := h
    simp only [opR, opndE, Int.reduceEq, false_and, false_or, or_false, true_or, or_true, if_false, if_true, if_pos h'])
  go_enter Tryd.func70, Tryd.ntmps70
  go_wp2_with (go_at_call 67; (with_reducible refine (within_t _ _ _ (by omega)).mono ?_); rintro e w' ⟨rfl, rfl⟩)
  go_ret
  exact ⟨ret_i hv.out.symm, boxed3 _ _ _ _⟩
theorem rop_r_f (h : ¬ (0 ≤ x ∧ x < f.regs)) (hr : Hid (opR M f i x 114 = r)) : Calls Tryd.prog 70 #[M.val, f.val, .int .u8 114, .int .i64 x, i.val] w fun e w' => e = .returned (.int .i64 r) ∧ Below w.heap.size w w' := by
  have hv : Hid (r = 35) := hr.out.symm.trans (by
    have h' : ¬ inR x f.fn.regs := h
    simp only [opR, opndE, Int.reduceEq, false_and, false_or, or_false, true_or, or_true, if_false, if_true, if_neg h'])
  go_enter Tryd.func70, Tryd.ntmps70
  go_wp2_with (go_at_call 67; (with_reducible refine (within_f _ _ _ (by omega)).mono ?_); rintro e w' ⟨rfl, rfl⟩)
  go_ret
  exact ⟨ret_i hv.out.symm, boxed3 _ _ _ _⟩
theorem rop_w_t (h : 0 ≤ x ∧ x < f.regs) (hr : Hid (opR M f i x 119 = r)) : Calls Tryd.prog 70 #[M.val, f.val, .int .u8 119, .int .i64 x, i.val] w fun e w' => e = .returned (.int .i64 r) ∧ Below w.heap.size w w' := by
  have hv : Hid (r = 0) := hr.out.symm.trans (by
    have h' : inR x f.fn.regs := h
    simp only [opR, opndE, Int.reduceEq, false_and, false_or, or_false, true_or, or_true, if_false, if_true, if_pos h'])
  go_enter Tryd.func70, Tryd.ntmps70
  go_wp2_with (go_at_call 67; (with_reducible refine (within_t _ _ _ (by omega)).mono ?_); rintro e w' ⟨rfl, rfl⟩)
  go_ret
  exact ⟨ret_i hv.out.symm, boxed3 _ _ _ _⟩
theorem rop_w_f (h : ¬ (0 ≤ x ∧ x < f.regs)) (hr : Hid (opR M f i x 119 = r)) : Calls Tryd.prog 70 #[M.val, f.val, .int .u8 119, .int .i64 x, i.val] w fun e w' => e = .returned (.int .i64 r) ∧ Below w.heap.size w w' := by
  have hv : Hid (r = 35) := hr.out.symm.trans (by
    have h' : ¬ inR x f.fn.regs := h
    simp only [opR, opndE, Int.reduceEq, false_and, false_or, or_false, true_or, or_true, if_false, if_true, if_neg h'])
  go_enter Tryd.func70, Tryd.ntmps70
  go_wp2_with (go_at_call 67; (with_reducible refine (within_f _ _ _ (by omega)).mono ?_); rintro e w' ⟨rfl, rfl⟩)
  go_ret
  exact ⟨ret_i hv.out.symm, boxed3 _ _ _ _⟩
theorem rop_o_t (hx : ¬ x = -1) (h : 0 ≤ x ∧ x < f.regs) (hr : Hid (opR M f i x 111 = r)) : Calls Tryd.prog 70 #[M.val, f.val, .int .u8 111, .int .i64 x, i.val] w fun e w' => e = .returned (.int .i64 r) ∧ Below w.heap.size w w' := by
  have hv : Hid (r = 0) := hr.out.symm.trans (by
    have h' : inR x f.fn.regs := h
    simp only [opR, opndE, hx, and_false, Int.reduceEq, false_and, false_or, or_false, true_or, or_true, if_false, if_true, if_pos h'])
  go_enter Tryd.func70, Tryd.ntmps70
  go_wp2_with (go_at_call 67; (with_reducible refine (within_t _ _ _ (by omega)).mono ?_); rintro e w' ⟨rfl, rfl⟩)
  go_ret
  exact ⟨ret_i hv.out.symm, boxed3 _ _ _ _⟩
theorem rop_o_f (hx : ¬ x = -1) (h : ¬ (0 ≤ x ∧ x < f.regs)) (hr : Hid (opR M f i x 111 = r)) : Calls Tryd.prog 70 #[M.val, f.val, .int .u8 111, .int .i64 x, i.val] w fun e w' => e = .returned (.int .i64 r) ∧ Below w.heap.size w w' := by
  have hv : Hid (r = 35) := hr.out.symm.trans (by
    have h' : ¬ inR x f.fn.regs := h
    simp only [opR, opndE, hx, and_false, Int.reduceEq, false_and, false_or, or_false, true_or, or_true, if_false, if_true, if_neg h'])
  go_enter Tryd.func70, Tryd.ntmps70
  go_wp2_with (go_at_call 67; (with_reducible refine (within_f _ _ _ (by omega)).mono ?_); rintro e w' ⟨rfl, rfl⟩)
  go_ret
  exact ⟨ret_i hv.out.symm, boxed3 _ _ _ _⟩
theorem rop_v_t (h : 0 ≤ x ∧ x < (M.vars.length : Int)) (hr : Hid (opR M f i x 118 = r)) : Calls Tryd.prog 70 #[M.val, f.val, .int .u8 118, .int .i64 x, i.val] w fun e w' => e = .returned (.int .i64 r) ∧ Below w.heap.size w w' := by
  have hv : Hid (r = 0) := hr.out.symm.trans (by
    have h' : inR x M.pr.vars.length := h
    simp only [opR, opndE, Int.reduceEq, false_and, false_or, or_false, true_or, or_true, if_false, if_true, if_pos h'])
  go_enter Tryd.func70, Tryd.ntmps70
  go_wp2_with (go_at_call 67; (with_reducible refine (within_t _ _ _ (by omega)).mono ?_); rintro e w' ⟨rfl, rfl⟩)
  go_ret
  exact ⟨ret_i hv.out.symm, boxed3 _ _ _ _⟩
theorem rop_v_f (h : ¬ (0 ≤ x ∧ x < (M.vars.length : Int))) (hr : Hid (opR M f i x 118 = r)) : Calls Tryd.prog 70 #[M.val, f.val, .int .u8 118, .int .i64 x, i.val] w fun e w' => e = .returned (.int .i64 r) ∧ Below w.heap.size w w' := by
  have hv : Hid (r = 36) := hr.out.symm.trans (by
    have h' : ¬ inR x M.pr.vars.length := h
    simp only [opR, opndE, Int.reduceEq, false_and, false_or, or_false, true_or, or_true, if_false, if_true, if_neg h'])
  go_enter Tryd.func70, Tryd.ntmps70
  go_wp2_with (go_at_call 67; (with_reducible refine (within_f _ _ _ (by omega)).mono ?_); rintro e w' ⟨rfl, rfl⟩)
  go_ret
  exact ⟨ret_i hv.out.symm, boxed3 _ _ _ _⟩
theorem rop_l_t (h : 0 ≤ x ∧ x < M.locks) (hr : Hid (opR M f i x 108 = r)) : Calls Tryd.prog 70 #[M.val, f.val, .int .u8 108, .int .i64 x, i.val] w fun e w' => e = .returned (.int .i64 r) ∧ Below w.heap.size w w' := by
  have hv : Hid (r = 0) := hr.out.symm.trans (by
    have h' : inR x M.pr.locks := h
    simp only [opR, opndE, Int.reduceEq, false_and, false_or, or_false, true_or, or_true, if_false, if_true, if_pos h'])
  go_enter Tryd.func70, Tryd.ntmps70
  go_wp2_with (go_at_call 67; (with_reducible refine (within_t _ _ _ (by omega)).mono ?_); rintro e w' ⟨rfl, rfl⟩)
  go_ret
  exact ⟨ret_i hv.out.symm, boxed3 _ _ _ _⟩
theorem rop_l_f (h : ¬ (0 ≤ x ∧ x < M.locks)) (hr : Hid (opR M f i x 108 = r)) : Calls Tryd.prog 70 #[M.val, f.val, .int .u8 108, .int .i64 x, i.val] w fun e w' => e = .returned (.int .i64 r) ∧ Below w.heap.size w w' := by
  have hv : Hid (r = 36) := hr.out.symm.trans (by
    have h' : ¬ inR x M.pr.locks := h
    simp only [opR, opndE, Int.reduceEq, false_and, false_or, or_false, true_or, or_true, if_false, if_true, if_neg h'])
  go_enter Tryd.func70, Tryd.ntmps70
  go_wp2_with (go_at_call 67; (with_reducible refine (within_f _ _ _ (by omega)).mono ?_); rintro e w' ⟨rfl, rfl⟩)
  go_ret
  exact ⟨ret_i hv.out.symm, boxed3 _ _ _ _⟩
theorem rop_c_t (h : 0 ≤ x ∧ x < (M.chans.length : Int)) (hr : Hid (opR M f i x 99 = r)) : Calls Tryd.prog 70 #[M.val, f.val, .int .u8 99, .int .i64 x, i.val] w fun e w' => e = .returned (.int .i64 r) ∧ Below w.heap.size w w' := by
  have hv : Hid (r = 0) := hr.out.symm.trans (by
    have h' : inR x M.pr.chans.length := h
    simp only [opR, opndE, Int.reduceEq, false_and, false_or, or_false, true_or, or_true, if_false, if_true, if_pos h'])
  go_enter Tryd.func70, Tryd.ntmps70
  go_wp2_with (go_at_call 67; (with_reducible refine (within_t _ _ _ (by omega)).mono ?_); rintro e w' ⟨rfl, rfl⟩)
  go_ret
  exact ⟨ret_i hv.out.symm, boxed3 _ _ _ _⟩
theorem rop_c_f (h : ¬ (0 ≤ x ∧ x < (M.chans.length : Int))) (hr : Hid (opR M f i x 99 = r)) : Calls Tryd.prog 70 #[M.val, f.val, .int .u8 99, .int .i64 x, i.val] w fun e w' => e = .returned (.int .i64 r) ∧ Below w.heap.size w w' := by
  have hv : Hid (r = 36) := hr.out.symm.trans (by
    have h' : ¬ inR x M.pr.chans.length := h
    simp only [opR, opndE, Int.reduceEq, false_and, false_or, or_false, true_or, or_true, if_false, if_true, if_neg h'])
  go_enter Tryd.func70, Tryd.ntmps70
  go_wp2_with (go_at_call 67; (with_reducible refine (within_f _ _ _ (by omega)).mono ?_); rintro e w' ⟨rfl, rfl⟩)
  go_ret
  exact ⟨ret_i hv.out.symm, boxed3 _ _ _ _⟩
theorem rop_s_t (h : 0 ≤ x ∧ x < (f.sels.length : Int)) (hr : Hid (opR M f i x 115 = r)) : Calls Tryd.prog 70 #[M.val, f.val, .int .u8 115, .int .i64 x, i.val] w fun e w' => e = .returned (.int .i64 r) ∧ Below w.heap.size w w' := by
  have hv : Hid (r = 0) := hr.out.symm.trans (by
    have h' : inR x (f.fn.sels.length : Int) := by rw [show (f.fn.sels.length : Int) = f.sels.length from by simp [MFn.fn]]; exact h
    simp only [opR, opndE, Int.reduceEq, false_and, false_or, or_false, true_or, or_true, if_false, if_true, if_pos h'])
  go_enter Tryd.func70, Tryd.ntmps70
  go_wp2_with (go_at_call 67; (with_reducible refine (within_t _ _ _ (by omega)).mono ?_); rintro e w' ⟨rfl, rfl⟩)
  go_ret
  exact ⟨ret_i hv.out.symm, boxed3 _ _ _ _⟩
theorem rop_s_f (h : ¬ (0 ≤ x ∧ x < (f.sels.length : Int))) (hr : Hid (opR M f i x 115 = r)) : Calls Tryd.prog 70 #[M.val, f.val, .int .u8 115, .int .i64 x, i.val] w fun e w' => e = .returned (.int .i64 r) ∧ Below w.heap.size w w' := by
  have hv : Hid (r = 36) := hr.out.symm.trans (by
    have h' : ¬ inR x (f.fn.sels.length : Int) := by rw [show (f.fn.sels.length : Int) = f.sels.length from by simp [MFn.fn]]; exact h
    simp only [opR, opndE, Int.reduceEq, false_and, false_or, or_false, true_or, or_true, if_false, if_true, if_neg h'])
  go_enter Tryd.func70, Tryd.ntmps70
  go_wp2_with (go_at_call 67; (with_reducible refine (within_f _ _ _ (by omega)).mono ?_); rintro e w' ⟨rfl, rfl⟩)
  go_ret
  exact ⟨ret_i hv.out.symm, boxed3 _ _ _ _⟩
theorem rop_f_t (h : 0 ≤ x ∧ x < (M.fns.length : Int)) (hr : Hid (opR M f i x 102 = r)) : Calls Tryd.prog 70 #[M.val, f.val, .int .u8 102, .int .i64 x, i.val] w fun e w' => e = .returned (.int .i64 r) ∧ Below w.heap.size w w' := by
  have hv : Hid (r = 0) := hr.out.symm.trans (by
    have h' : inR x (M.pr.fns.length : Int) := by rw [show (M.pr.fns.length : Int) = M.fns.length from by simp [MPr.pr]]; exact h
    simp only [opR, opndE, Int.reduceEq, false_and, false_or, or_false, true_or, or_true, if_false, if_true, if_pos h'])
  go_enter Tryd.func70, Tryd.ntmps70
  go_wp2_with (go_at_call 67; (with_reducible refine (within_t _ _ _ (by omega)).mono ?_); rintro e w' ⟨rfl, rfl⟩)
  go_ret
  exact ⟨ret_i hv.out.symm, boxed3 _ _ _ _⟩
theorem rop_f_f (h : ¬ (0 ≤ x ∧ x < (M.fns.length : Int))) (hr : Hid (opR M f i x 102 = r)) : Calls Tryd.prog 70 #[M.val, f.val, .int .u8 102, .int .i64 x, i.val] w fun e w' => e = .returned (.int .i64 r) ∧ Below w.heap.size w w' := by
  have hv : Hid (r = 36) := hr.out.symm.trans (by
    have h' : ¬ inR x (M.pr.fns.length : Int) := by rw [show (M.pr.fns.length : Int) = M.fns.length from by simp [MPr.pr]]; exact h
    simp only [opR, opndE, Int.reduceEq, false_and, false_or, or_false, true_or, or_true, if_false, if_true, if_neg h'])
  go_enter Tryd.func70, Tryd.ntmps70
  go_wp2_with (go_at_call 67; (with_reducible refine (within_f _ _ _ (by omega)).mono ?_); rintro e w' ⟨rfl, rfl⟩)
  go_ret
  exact ⟨ret_i hv.out.symm, boxed3 _ _ _ _⟩
theorem rop_t_t (h : 0 ≤ x ∧ x < (f.code.length : Int)) (hr : Hid (opR M f i x 116 = r)) : Calls Tryd.prog 70 #[M.val, f.val, .int .u8 116, .int .i64 x, i.val] w fun e w' => e = .returned (.int .i64 r) ∧ Below w.heap.size w w' := by
  have hv : Hid (r = 0) := hr.out.symm.trans (by
    have h' : inR x f.fn.code.length := h
    simp only [opR, opndE, Int.reduceEq, false_and, false_or, or_false, true_or, or_true, if_false, if_true, if_pos h'])
  go_enter Tryd.func70, Tryd.ntmps70
  go_wp2_with (go_at_call 67; (with_reducible refine (within_t _ _ _ (by omega)).mono ?_); rintro e w' ⟨rfl, rfl⟩)
  go_ret
  exact ⟨ret_i hv.out.symm, boxed3 _ _ _ _⟩
theorem rop_t_f (h : ¬ (0 ≤ x ∧ x < (f.code.length : Int))) (hr : Hid (opR M f i x 116 = r)) : Calls Tryd.prog 70 #[M.val, f.val, .int .u8 116, .int .i64 x, i.val] w fun e w' => e = .returned (.int .i64 r) ∧ Below w.heap.size w w' := by
  have hv : Hid (r = 38) := hr.out.symm.trans (by
    have h' : ¬ inR x f.fn.code.length := h
    simp only [opR, opndE, Int.reduceEq, false_and, false_or, or_false, true_or, or_true, if_false, if_true, if_neg h'])
  go_enter Tryd.func70, Tryd.ntmps70
  go_wp2_with (go_at_call 67; (with_reducible refine (within_f _ _ _ (by omega)).mono ?_); rintro e w' ⟨rfl, rfl⟩)
  go_ret
  exact ⟨ret_i hv.out.symm, boxed3 _ _ _ _⟩
theorem rop_o_none (hx : x = -1) (hr : Hid (opR M f i x 111 = r)) : Calls Tryd.prog 70 #[M.val, f.val, .int .u8 111, .int .i64 x, i.val] w fun e w' => e = .returned (.int .i64 r) ∧ Below w.heap.size w w' := by
  subst hx
  have hv : Hid (r = 0) := hr.out.symm.trans (by simp only [opR, opndE, and_self, if_true])
  go_enter Tryd.func70, Tryd.ntmps70
  go_wp2
  go_ret
  exact ⟨ret_i hv.out.symm, boxed3 _ _ _ _⟩
theorem rop_a_t (k : Nat) (y : Vr) (hk : x = (k : Int)) (hy : M.vars[k]? = some y) (hl : M.lies w) (hr : Hid (opR M f i x 97 = r)) : Calls Tryd.prog 70 #[M.val, f.val, .int .u8 97, .int .i64 x, i.val] w fun e w' => e = .returned (.int .i64 r) ∧ Below w.heap.size w w' := by
  have hlt : k < M.vars.length := (List.getElem?_eq_some_iff.mp hy).1
  have h : 0 ≤ x ∧ x < (M.vars.length : Int) := by omega
  obtain ⟨b, o, hix, hbl, c0, c1⟩ := vr_ix hl.1 k y hy
  rw [← hk] at hix
  replace c0 := cell3 c0
  have ha : M.pr.atom x = y.atomic := by rw [hk]; simp [Pr.atom, MPr.pr, hy]
  have hE : opR M f i x 97 = if y.atomic = true then 0 else 37 := by
    have h' : inR x M.pr.vars.length := h
    simp only [opR, opndE, Int.reduceEq, false_and, false_or, or_false, true_or, or_true, if_false, if_true, if_pos h', ha]
  cases hat : y.atomic with
  | true =>
    have hv : Hid (r = 0) := hr.out.symm.trans (by rw [hE, if_pos hat])
    clear ha hE hl hy hk c1 hr
    rw [hat] at c0
    go_enter Tryd.func70, Tryd.ntmps70
    go_wp2_with (go_at_call 67; (with_reducible refine (within_t _ _ _ (by omega)).mono ?_); rintro e w' ⟨rfl, rfl⟩)
    go_ret
    exact ⟨ret_i hv.out.symm, boxed3 _ _ _ _⟩
  | false =>
    have hv : Hid (r = 37) := hr.out.symm.trans (by rw [hE, if_neg (by simp [hat])])
    clear ha hE hl hy hk c1 hr
    rw [hat] at c0
    go_enter Tryd.func70, Tryd.ntmps70
    go_wp2_with (go_at_call 67; (with_reducible refine (within_t _ _ _ (by omega)).mono ?_); rintro e w' ⟨rfl, rfl⟩)
    go_ret
    exact ⟨ret_i hv.out.symm, boxed3 _ _ _ _⟩
theorem rop_a_f (h : ¬ (0 ≤ x ∧ x < (M.vars.length : Int))) (hr : Hid (opR M f i x 97 = r)) : Calls Tryd.prog 70 #[M.val, f.val, .int .u8 97, .int .i64 x, i.val] w fun e w' => e = .returned (.int .i64 r) ∧ Below w.heap.size w w' := by
  have hv : Hid (r = 36) := hr.out.symm.trans (by
    have h' : ¬ inR x M.pr.vars.length := h
    simp only [opR, opndE, Int.reduceEq, false_and, false_or, or_false, true_or, or_true, if_false, if_true, if_neg h'])
  go_enter Tryd.func70, Tryd.ntmps70
  go_wp2_with (go_at_call 67; (with_reducible refine (within_f _ _ _ (by omega)).mono ?_); rintro e w' ⟨rfl, rfl⟩)
  go_ret
  exact ⟨ret_i hv.out.symm, boxed3 _ _ _ _⟩
theorem rop_else (h1 : ¬ l = 111) (h2 : ¬ l = 114) (h3 : ¬ l = 119) (h4 : ¬ l = 112) (h5 : ¬ l = 97) (h6 : ¬ l = 118) (h7 : ¬ l = 108) (h8 : ¬ l = 99) (h9 : ¬ l = 115) (h10 : ¬ l = 102) (h11 : ¬ l = 116) (hr : Hid (opR M f i x l = r)) : Calls Tryd.prog 70 #[M.val, f.val, .int .u8 l, .int .i64 x, i.val] w fun e w' => e = .returned (.int .i64 r) ∧ Below w.heap.size w w' := by
  have hv : Hid (r = 0) := hr.out.symm.trans (by simp only [opR, opndE, h1, h2, h3, h4, h5, h6, h7, h8, h9, h10, h11, false_and, or_self, if_false])
  go_enter Tryd.func70, Tryd.ntmps70
  go_wp2
  go_ret
  exact ⟨ret_i hv.out.symm, boxed3 _ _ _ _⟩
theorem rop_p (k : Nat) (y : MFn) (hk : i.b = (k : Int)) (hy : M.fns[k]? = some y) (hl : M.lies w) (hx : I64 x) (h0 : 0 ≤ f.regs) (h8 : f.regs ≤ 8) (hr : Hid (opR M f i x 112 = r)) : Calls Tryd.prog 70 #[M.val, f.val, .int .u8 112, .int .i64 x, i.val] w fun e w' => e = .returned (.int .i64 r) ∧ Below w.heap.size w w' := by
  have hlt : k < M.fns.length := (List.getElem?_eq_some_iff.mp hy).1
  have hp : M.pr.par i.b = y.params := by rw [hk]; simp [Pr.par, MPr.pr, MFn.fn, hy]
  obtain ⟨b, o, hix, hbl, c0, c1, c2, c3⟩ := fn_ix hl.2.2.1 k y hy
  rw [← hk] at hix
  replace c0 := cell3 c0
  obtain ⟨y1, y2⟩ : I64 y.params := (hl.2.2.2.2.2.2 y (List.mem_of_getElem? hy)).2.2.2.2.1
  have hv : Hid (r = if roomR y.params x f.regs then 0 else 35) := hr.out.symm.trans (by
    simp only [opR, opndE, Int.reduceEq, false_and, false_or, or_false, true_or, or_true, if_false, if_true, hp])
  clear hl hy hp hr c1 c2 c3
  have hbI : 0 ≤ i.b ∧ i.b < (M.fns.length : Int) := by omega
  clear hk hlt
  obtain ⟨x1, x2⟩ := hx
  generalize y.params = k at *
  by_cases hz : k = 0
  · subst hz
    by_cases hx0 : x = 0
    · have hv2 : Hid (r = 0) := hv.out.trans (if_pos (by rintro (q | q) <;> omega))
      go_enter Tryd.func70, Tryd.ntmps70
      go_wp2
      go_ret
      exact ⟨ret_i hv2.out.symm, boxed3 _ _ _ _⟩
    · have hv2 : Hid (r = 35) := hv.out.trans (if_neg (fun q => q (.inl ⟨rfl, hx0⟩)))
      go_enter Tryd.func70, Tryd.ntmps70
      go_wp2
      go_ret
      exact ⟨ret_i hv2.out.symm, boxed3 _ _ _ _⟩
  · by_cases hp : 0 < k
    · by_cases hx0 : x < 0
      · have hv2 : Hid (r = 35) := hv.out.trans (if_neg (fun q => q (.inr ⟨hp, .inl hx0⟩)))
        go_enter Tryd.func70, Tryd.ntmps70
        go_wp2
        go_ret
        exact ⟨ret_i hv2.out.symm, boxed3 _ _ _ _⟩
      · by_cases hx1 : f.regs - k < x
        · have hv2 : Hid (r = 35) := hv.out.trans (if_neg (fun q => q (.inr ⟨hp, .inr hx1⟩)))
          go_enter Tryd.func70, Tryd.ntmps70
          go_wp2
          go_ret
          exact ⟨ret_i hv2.out.symm, boxed3 _ _ _ _⟩
        · have hv2 : Hid (r = 0) := hv.out.trans (if_pos (by rintro (q | q) <;> omega))
          go_enter Tryd.func70, Tryd.ntmps70
          go_wp2
          go_ret
          exact ⟨ret_i hv2.out.symm, boxed3 _ _ _ _⟩
    · have hv2 : Hid (r = 0) := hv.out.trans (if_pos (by rintro (q | q) <;> omega))
      go_enter Tryd.func70, Tryd.ntmps70
      go_wp2
      go_ret
      exact ⟨ret_i hv2.out.symm, boxed3 _ _ _ _⟩
/-- Every operand, whatever its letter. -/
theorem roperand_any (hl : M.lies w) (hx64 : I64 x) (h0 : 0 ≤ f.regs) (h8 : f.regs ≤ 8) (hp : l = 112 → 0 ≤ i.b ∧ i.b < (M.fns.length : Int)) (hr : Hid (opR M f i x l = r)) :
    Calls Tryd.prog 70 #[M.val, f.val, .int .u8 l, .int .i64 x, i.val] w fun e w' => e = .returned (.int .i64 r) ∧ Below w.heap.size w w' := by
  by_cases l1 : l = 111
  · subst l1
    by_cases hx : x = -1
    · exact rop_o_none M f i x w r hx hr
    by_cases h : 0 ≤ x ∧ x < f.regs
    · exact rop_o_t M f i x w r hx h hr
    · exact rop_o_f M f i x w r hx h hr
  by_cases l2 : l = 114
  · subst l2
    by_cases h : 0 ≤ x ∧ x < f.regs
    · exact rop_r_t M f i x w r h hr
    · exact rop_r_f M f i x w r h hr
  by_cases l3 : l = 119
  · subst l3
    by_cases h : 0 ≤ x ∧ x < f.regs
    · exact rop_w_t M f i x w r h hr
    · exact rop_w_f M f i x w r h hr
  by_cases l4 : l = 112
  · subst l4
    have hb := hp rfl
    obtain ⟨y, hy, _⟩ := get_lt M.fns i.b.toNat (by omega)
    exact rop_p M f i x w r i.b.toNat y (by omega) hy hl hx64 h0 h8 hr
  by_cases l5 : l = 97
  · subst l5
    by_cases h : 0 ≤ x ∧ x < (M.vars.length : Int)
    · obtain ⟨y, hy, _⟩ := get_lt M.vars x.toNat (by omega)
      exact rop_a_t M f i x w r x.toNat y (by omega) hy hl hr
    · exact rop_a_f M f i x w r h hr
  by_cases l6 : l = 118
  · subst l6
    by_cases h : 0 ≤ x ∧ x < (M.vars.length : Int)
    · exact rop_v_t M f i x w r h hr
    · exact rop_v_f M f i x w r h hr
  by_cases l7 : l = 108
  · subst l7
    by_cases h : 0 ≤ x ∧ x < M.locks
    · exact rop_l_t M f i x w r h hr
    · exact rop_l_f M f i x w r h hr
  by_cases l8 : l = 99
  · subst l8
    by_cases h : 0 ≤ x ∧ x < (M.chans.length : Int)
    · exact rop_c_t M f i x w r h hr
    · exact rop_c_f M f i x w r h hr
  by_cases l9 : l = 115
  · subst l9
    by_cases h : 0 ≤ x ∧ x < (f.sels.length : Int)
    · exact rop_s_t M f i x w r h hr
    · exact rop_s_f M f i x w r h hr
  by_cases l10 : l = 102
  · subst l10
    by_cases h : 0 ≤ x ∧ x < (M.fns.length : Int)
    · exact rop_f_t M f i x w r h hr
    · exact rop_f_f M f i x w r h hr
  by_cases l11 : l = 116
  · subst l11
    by_cases h : 0 ≤ x ∧ x < (f.code.length : Int)
    · exact rop_t_t M f i x w r h hr
    · exact rop_t_f M f i x w r h hr
  exact rop_else M f i x w r l l1 l2 l3 l4 l5 l6 l7 l8 l9 l10 l11 hr
end
end Go.Proofs.YtmgmiaonljcfcaaDoor.pg
