/- What is in the thing behind an order, in the document's own words. -/
import Derived.Test.YtklpifammbnldaaM31
import Derived.Laws.Cover3
import Derived.Test.YtklpifammbnldaaM28
import Derived.Test.YtklpifammbnldaaM4
namespace Go.Proofs.Ytklpifammbnldaa.pg
open Go.ChangeShapes Go.WideShapes Go.ChangeAt Go.RowKit
set_option linter.unusedVariables false
set_option linter.unusedSimpArgs false
set_option maxRecDepth 100000
attribute [local go_sem ↓] Go.wp_at_zero Go.wp_at_succ
section
variable {P : Program} {ops : Array Oper} {Q : Exit → Act → World → Prop} {S : World → Prop} {fuel : Nat} {listed : Array Bool} {a : Act} {w : World}
theorem arm_callL3 {i : Nat} {o : Oper} (hw : Region.wanted o (yielded ops a.tmps) = true) (f : FuncId) (x y z : Operand) (t u q : TypeId)
    (hc0 : o.op = .call { callee := .value (.func f), args := #[x, y, z], argTypes := #[t, u, q] }) (v v2 v3 : Value) (hx : a.eval x = v) (hy : a.eval y = v2) (hz : a.eval z = v3) (hcf : (callFunc f #[v, v2, v3]).run P w = .ok (.enter f #[v, v2, v3]) w) (R : Ending → World → Prop) (hc : Calls P f #[v, v2, v3] w R)
    (hK : ∀ e w', R e w' → ∃ v, e = .returned v ∧ S w' ∧ (S w' → wpAnyH P .any ops Q S fuel (listed.setIfInBounds i true) (a.put o.dst v) w')) :
    ∀ K' : Act → World → Prop, Shut (∀ a w, S w → (S w → wpAnyH P .any ops Q S fuel (listed.setIfInBounds i true) a w) → K' a w) → if Region.wanted o (yielded ops a.tmps) = true then Oper.wp P o a w K' Q else K' (a.put o.dst undef) w := fun K hK2 => by
  rw [if_pos hw]
  have hrun : (execOp a.eval o).run P w = .ok (.enter f #[v, v2, v3]) w := by
    have hf : a.eval (.func f) = .func (.func f) #[] #[] := rfl
    simp [execOp, hc0, resolve, invoke, hx, hy, hz, hf, Deferred.ofValue, hcf]
  unfold Oper.wp
  rw [hrun, Oper.upon_enter]
  refine hc.mono fun e w' h => ?_
  obtain ⟨v, rfl, hs, hk⟩ := hK e w' h
  exact hK2.out _ _ hs hk
end
section
variable {w : World} {k : Int} {h : List Cl} {ha oa : Option Addr} {hc oc : Nat} {r : List Nat}
set_option maxHeartbeats 8000000 in
theorem rlastL_any (hh : Rows w 7 ha hc (h.map Cl.cells)) (hI : ∀ x ∈ h, I64 x.inn) (hR : RightH k h) (ho : Rows w 1 oa oc ((asI r).map chCells)) (hr : ∀ x ∈ r, x < h.length) (hr8 : r.length ≤ 8) : Calls Try.prog 21 #[.int .i64 k, .slice ha h.length hc, .slice oa r.length oc] w fun e w' => ∃ va vc, e = .returned (.slice va (runC k h (firstC k) r).1.length vc) ∧ Rows w' 1 va vc ((runC k h (firstC k) r).1.map chCells) ∧ Below w.heap.size w w' := by
  have hhH : Hid (Rows w 7 ha hc (h.map Cl.cells)) := hh
  have hoH : Hid (Rows w 1 oa oc ((asI r).map chCells)) := ho
  have hRH : Hid (RightH k h) := hR
  have hrr : Hid (∀ i, i < r.length → rg r i < h.length) := fun i hi => hr _ (List.mem_of_getElem? (rg_at hi))
  have hIv : Hid (∀ i, i ≤ r.length → InvC k (runT k h r i).1 i) := runT_inv hR hI hr
  have hr8I : (r.length : Int) ≤ 8 := by omega
  obtain ⟨iN, hiN', hzN', hsN', hbN'⟩ := info_q infoI64
  have hiN : Hid _ := hiN'
  have hzN : Hid _ := hzN'
  have hsN : Hid _ := hsN'
  clear hiN' hzN' hsN' hbN'
  have huX : Hid (Try.prog.underlying 53 = _) := Try.underlying53
  have huD : Hid (Try.prog.underlying TD6 = _) := Try.underlying75
  have s0 : Hid (FiS w (w.alloc (oDg 0 none 0 0)) k (runT k h r 0).1) := by
    rw [runT_zero]
    exact ⟨⟨0, none, 0, 0, heap_alloc_new _ _, repD_zero _ hR.kd, fun g hg => by simp [blk] at hg⟩, boxed _ _⟩
  clear hh hR ho hI hr
  go_enter Try.func21, Try.ntmps21
  go_wp2_with fail
  generalize w.alloc (oDg 0 none 0 0) = W at *
  go_loopw [8] (fun u wr => ∃ i : Nat, i ≤ r.length ∧ u = .int .i64 (i : Int) ∧ Hid (FiS w wr k (runT k h r i).1)) (fun u _ => r.length - (intOf u).toNat)
  case atStart => exact ⟨0, Nat.zero_le _, rfl, s0⟩
  case round =>
    obtain ⟨i, hi, rfl, hst⟩ := hrel
    clear s0
    by_cases hlt : i < r.length
    · have hiI : (i : Int) < r.length := by omega
      obtain ⟨b1, o1, x1, c1⟩ := ord_ix (hoH.out.later hst.out.b) hlt
      have hli : rg r i < h.length := hrr.out i hlt
      obtain ⟨b3, o3, x3, hl3, r3⟩ := cl_ix (hhH.out.later hst.out.b) hli
      have hXD : Hid (doesB k (hf h (rg r i)).d = true ∧ rcB (hf h (rg r i)) = true ∧ OkC k (hf h (rg r i)).d (runT k h r i).1) := ⟨(hRH.out.c _ (hf_mem hli)).1, (hRH.out.c _ (hf_mem hli)).2, inv_ok (hIv.out i hi) hRH.out.kd (by omega) (hRH.out.c _ (hf_mem hli)).1⟩
      have hsH : Hid ((runT k h r (i + 1)).1 = nxtC k (runT k h r i).1 (hf h (rg r i))) := by (show _ = _; rw [runT_step (k := k) (h := h) hlt])
      generalize hf h (rg r i) = x at *
      have r3H : Hid (wr.rangeAt b3 o3 x.cells) := r3
      obtain ⟨n, a, m, lc, hT, hRp, hbk⟩ := hst.out.ex
      have hTH : Hid (wr.heap[w.heap.size]? = some (oDg n a m lc) ∧ RepD wr k (runT k h r i).1 n a m lc ∧ (∀ g ∈ blk a, g ≠ w.heap.size ∧ g < wr.heap.size) ∧ Below w.heap.size w wr ∧ w.heap.size < wr.heap.size) := ⟨hT, hRp, hbk, hst.out.b, (Array.getElem?_eq_some_iff.mp hT).1⟩
      have hRd : Hid (∀ w', Below wr.heap.size wr w' → w'.rangeAt w.heap.size 0 [.int .i64 n, .slice a m lc] ∧ w'.cell? ⟨b1, o1, none⟩ = some (.int .i64 ((rg r i : Nat) : Int)) ∧ w'.rangeAt b3 o3 x.cells) := fun w' q => ⟨rng_blk (blk_on hT q), cell_later q c1, range_blk r3 (q.block _ hl3)⟩
      clear hst r3 hT hRp hbk hl3
      go_upto_region 5 with fail
      have hS : Hid (Below wr.heap.size wr wr.drew) := bey_drew wr
      refine wp_region_noPanic ?_
      refine wp_region_held_drew (S := fun w' => Below wr.heap.size wr w') (by kernel_rfl) hS.out (fun _ => ?_)
      refine reg_move (i := 0) rfl (by kernel_rfl) (by kernel_rfl) (by kernel_rfl) (fun _ _ _ _ h => h) rfl (.int .i64 k) (fun _ => rfl) hS.out ?_
      simp only [Act.put, List.getElem_toArray, List.getElem_cons_succ, List.getElem_cons_zero, List.setIfInBounds_toArray, List.set_cons_zero, List.set_cons_succ]
      refine reg_load (i := 1) rfl (by kernel_rfl) (by kernel_rfl) (by kernel_rfl) (fun _ _ _ _ h => h) rfl TD6 _ rfl w.heap.size 0 rfl [.int .i64 n, .slice a m lc] _ (fun w' q => (hRd.out w' q).1) Try.underlying75 rfl infoDg hS.out ?_
      simp only [Act.put, List.getElem_toArray, List.getElem_cons_succ, List.getElem_cons_zero, List.setIfInBounds_toArray, List.set_cons_zero, List.set_cons_succ]
      refine reg_move (i := 2) rfl (by kernel_rfl) (by kernel_rfl) (by kernel_rfl) (fun _ _ _ _ h => h) rfl (.slice ha h.length hc) (fun _ => rfl) hS.out ?_
      simp only [Act.put, List.getElem_toArray, List.getElem_cons_succ, List.getElem_cons_zero, List.setIfInBounds_toArray, List.set_cons_zero, List.set_cons_succ]
      refine reg_move (i := 3) rfl (by kernel_rfl) (by kernel_rfl) (by kernel_rfl) (fun _ _ _ _ h => h) rfl (.slice oa r.length oc) (fun _ => rfl) hS.out ?_
      simp only [Act.put, List.getElem_toArray, List.getElem_cons_succ, List.getElem_cons_zero, List.setIfInBounds_toArray, List.set_cons_zero, List.set_cons_succ]
      refine reg_move (i := 4) rfl (by kernel_rfl) (by kernel_rfl) (by kernel_rfl) (fun _ _ _ _ h => h) rfl (.int .i64 (i : Int)) (fun _ => rfl) hS.out ?_
      simp only [Act.put, List.getElem_toArray, List.getElem_cons_succ, List.getElem_cons_zero, List.setIfInBounds_toArray, List.set_cons_zero, List.set_cons_succ]
      refine reg_move (i := 5) rfl (by kernel_rfl) (by kernel_rfl) (by kernel_rfl) (fun _ _ _ _ h => h) rfl (.pointer (some ⟨b1, o1, none⟩)) (fun wx => by unfold execOp; exact run_value_of (x1 wx)) hS.out ?_
      simp only [Act.put, List.getElem_toArray, List.getElem_cons_succ, List.getElem_cons_zero, List.setIfInBounds_toArray, List.set_cons_zero, List.set_cons_succ]
      refine reg_load1 (i := 6) rfl (by kernel_rfl) (by kernel_rfl) (by kernel_rfl) (fun _ _ _ _ h => h) rfl 3 _ rfl ⟨b1, o1, none⟩ rfl _ Try.underlying3 rfl (.int .i64 ((rg r i : Nat) : Int)) (fun w' q => (hRd.out w' q).2.1) hS.out ?_
      simp only [Act.put, List.getElem_toArray, List.getElem_cons_succ, List.getElem_cons_zero, List.setIfInBounds_toArray, List.set_cons_zero, List.set_cons_succ]
      refine reg_move (i := 7) rfl (by kernel_rfl) (by kernel_rfl) (by kernel_rfl) (fun _ _ _ _ h => h) rfl (.pointer (some ⟨b3, o3, none⟩)) (fun wx => by unfold execOp; exact run_value_of (x3 wx)) hS.out ?_
      simp only [Act.put, List.getElem_toArray, List.getElem_cons_succ, List.getElem_cons_zero, List.setIfInBounds_toArray, List.set_cons_zero, List.set_cons_succ]
      refine reg_load (i := 8) rfl (by kernel_rfl) (by kernel_rfl) (by kernel_rfl) (fun _ _ _ _ h => h) rfl 53 _ rfl b3 o3 rfl x.cells _ (fun w' q => (hRd.out w' q).2.2) Try.underlying53 rfl infoX hS.out ?_
      simp only [Act.put, List.getElem_toArray, List.getElem_cons_succ, List.getElem_cons_zero, List.setIfInBounds_toArray, List.set_cons_zero, List.set_cons_succ]
      refine wpAnyH_ready (show Region.ready .any _ _ = [9, 13] by kernel_rfl) (by simp) (AllReadyH.cons rfl (arm_callL3 rfl 36 _ _ _ _ _ _ rfl (.int .i64 k) (.agg #[.int .i64 n, .slice a m lc]) x.val rfl rfl rfl (cf_fn Try.func36 (by kernel_rfl) (by kernel_rfl) _ _) _ (rdo_any hXD.out.1 hXD.out.2.1 hXD.out.2.2 (hTH.out.2.1.later hS.out)) ?_) (AllReadyH.cons rfl (arm_list rfl (wpList_alloc_big rfl TD6 rfl zeroDg (wpList_nil (And.intro (bthen hS.out (boxed _ _)) fun _ => ?_)))) AllReadyH.nil))
      · rintro e1 w5 ⟨n', a', m', lc', rfl, hR5, hb5', hf5⟩
        have hb5 : Hid (Below wr.heap.size wr w5) := bthen hS.out hb5'
        have hq5 : Hid (RepD w5 k (nxtC k (runT k h r i).1 x) n' a' m' lc' ∧ ∀ g ∈ blk a', (g ∈ blk a ∨ (wr.heap.size < g ∧ g < w5.heap.size))) := ⟨hR5, hf5⟩
        have hlt5 : Hid (∀ g ∈ blk a', g ≠ w.heap.size ∧ g < w5.heap.size) := fun g hg => by
          have e1 := hTH.out.2.2.2.2
          have e2 := hb5.out.size
          rcases hq5.out.2 g hg with q | q
          · have := hTH.out.2.2.1 g q; omega
          · omega
        refine ⟨_, rfl, hb5.out, fun _ => ?_⟩
        clear hR5 hb5' hf5
        simp only [Act.put, List.getElem_toArray, List.getElem_cons_succ, List.getElem_cons_zero, List.setIfInBounds_toArray, List.set_cons_zero, List.set_cons_succ]
        refine reg_move (i := 10) rfl (by kernel_rfl) (by kernel_rfl) (by kernel_rfl) (fun _ _ _ _ h => h) rfl (.tuple #[.agg #[.int .i64 n', .slice a' m' lc'], .bool (fitC k (runT k h r i).1 x)]) (fun _ => rfl) hb5.out ?_
        simp only [Act.put, List.getElem_toArray, List.getElem_cons_succ, List.getElem_cons_zero, List.setIfInBounds_toArray, List.set_cons_zero, List.set_cons_succ]
        refine reg_move (i := 11) rfl (by kernel_rfl) (by kernel_rfl) (by kernel_rfl) (fun _ _ _ _ h => h) rfl (.agg #[.int .i64 n', .slice a' m' lc']) (fun _ => rfl) hb5.out ?_
        simp only [Act.put, List.getElem_toArray, List.getElem_cons_succ, List.getElem_cons_zero, List.setIfInBounds_toArray, List.set_cons_zero, List.set_cons_succ]
        refine reg_move (i := 12) rfl (by kernel_rfl) (by kernel_rfl) (by kernel_rfl) (fun _ _ _ _ h => h) rfl (.bool (fitC k (runT k h r i).1 x)) (fun _ => rfl) hb5.out ?_
        simp only [Act.put, List.getElem_toArray, List.getElem_cons_succ, List.getElem_cons_zero, List.setIfInBounds_toArray, List.set_cons_zero, List.set_cons_succ]
        refine reg_one (i := 13) (by kernel_rfl) rfl rfl (wpList_alloc_big rfl TD6 rfl zeroDg (wpList_nil (And.intro (bthen hb5.out (boxed _ _)) fun _ => ?_)))
        simp only [Act.put, List.getElem_toArray, List.getElem_cons_succ, List.getElem_cons_zero, List.setIfInBounds_toArray, List.set_cons_zero, List.set_cons_succ]
        obtain ⟨D, hD⟩ : ∃ D, w5.heap.size = D := ⟨_, rfl⟩
        obtain ⟨V, hVe⟩ : ∃ V, w5.alloc (.cells #[.int .i64 0, .slice none 0 0] TD6) = V := ⟨_, rfl⟩
        have hV : Hid (V.heap[D]? = some (oDg 0 none 0 0) ∧ V.heap[w.heap.size]? = some (oDg n a m lc) ∧ RepD V k (nxtC k (runT k h r i).1 x) n' a' m' lc' ∧ (∀ g ∈ blk a', g ≠ w.heap.size ∧ g < V.heap.size) ∧ (∀ g ∈ blk a', g ≠ D) ∧ wr.heap.size ≤ D ∧ Below wr.heap.size wr V) := by
          rw [← hVe, ← hD]
          refine ⟨heap_alloc_new _ _, blk_on (blk_on hTH.out.1 hb5.out) (boxed _ _), hq5.out.1.later (boxed _ _), fun g hg => ⟨(hlt5.out g hg).1, by rw [World.size_alloc]; have := (hlt5.out g hg).2; omega⟩, fun g hg => Nat.ne_of_lt (hlt5.out g hg).2, hb5.out.size, bthen hb5.out (boxed _ _)⟩
        rw [hVe, hD]
        clear hq5 hlt5 hb5 hD hVe
        have hDw : Hid (wr.heap.size ≤ D ∧ w.heap.size ≠ D) := ⟨hV.out.2.2.2.2.2.1, by have := hV.out.2.2.2.2.2.1; have := hTH.out.2.2.2.2; omega⟩
        refine reg_one (i := 14) (by kernel_rfl) rfl rfl (wpList_store_row rfl TD6 _ _ rfl D #[.int .i64 n', .slice a' m' lc'] rfl rfl _ _ hV.out.1 infoDg rfl (dg_one _ _ _ _) (wpList_nil (And.intro (below_setRow hV.out.2.2.2.2.2.2 hDw.out.1 _) fun _ => ?_)))
        simp only [Act.put, List.getElem_toArray, List.getElem_cons_succ, List.getElem_cons_zero, List.setIfInBounds_toArray, List.set_cons_zero, List.set_cons_succ]
        have hSy : Hid (Below wr.heap.size wr (V.setRow D #[.int .i64 n', .slice a' m' lc'])) := below_setRow hV.out.2.2.2.2.2.2 hDw.out.1 _
        refine reg_move (i := 15) rfl (by kernel_rfl) (by kernel_rfl) (by kernel_rfl) (fun _ _ _ _ h => h) rfl (.bool (fitC k (runT k h r i).1 x)) (fun _ => rfl) hSy.out ?_
        simp only [Act.put, List.getElem_toArray, List.getElem_cons_succ, List.getElem_cons_zero, List.setIfInBounds_toArray, List.set_cons_zero, List.set_cons_succ]
        refine wpAnyH_done (by kernel_rfl) (NoPanic.normal ?_) _
        have hY : Hid ((V.setRow D #[.int .i64 n', .slice a' m' lc']).heap[D]? = some (oDg n' a' m' lc') ∧ (V.setRow D #[.int .i64 n', .slice a' m' lc']).heap[w.heap.size]? = some (oDg n a m lc) ∧ RepD (V.setRow D #[.int .i64 n', .slice a' m' lc']) k (runT k h r (i + 1)).1 n' a' m' lc' ∧ (∀ g ∈ blk a', g ≠ w.heap.size ∧ g < (V.setRow D #[.int .i64 n', .slice a' m' lc']).heap.size) ∧ Below w.heap.size w (V.setRow D #[.int .i64 n', .slice a' m' lc'])) := by
          refine ⟨setRow_heap _ _ _ _ _ _ hV.out.1, (setRow_other _ _ _ _ hDw.out.2).trans hV.out.2.1, ?_, fun g hg => ⟨(hV.out.2.2.2.1 g hg).1, by rw [setRow_size]; exact (hV.out.2.2.2.1 g hg).2⟩, bthen hTH.out.2.2.2.1 hSy.out⟩
          rw [hsH.out]
          exact hV.out.2.2.1.imp_right fun ⟨q1, q2, q3, q4⟩ => ⟨q1, q2, q3, rows_keepL q4 fun g hg => setRow_other _ _ _ _ (hV.out.2.2.2.2.1 g hg)⟩
        generalize World.setRow V D _ = Y at *
        clear hV hDw hSy hTH hRd hXD hsH hS r3H x1 c1 x3
        go_wp2_with (first
          | ((with_reducible refine at_loadL TD6 (.tmp 9) rfl ?_); refine stopL_out ?_; refine wpList_load_row rfl TD6 _ rfl D rfl _ _ _ _ hY.out.1 huD.out rfl infoDg ?_)
          | ((with_reducible refine at_storeL TD6 (.tmp 7) _ rfl ?_); refine stopL_out ?_; refine wpList_store_row rfl TD6 _ _ rfl w.heap.size #[.int .i64 n', .slice a' m' lc'] rfl rfl _ _ hY.out.2.1 infoDg rfl (dg_one _ _ _ _) ?_))
        go_roundw
        case rel => exact ⟨i + 1, by omega, by go_num, FiS.put hY.out.2.1 hY.out.2.2.1 hY.out.2.2.2.1 hY.out.2.2.2.2⟩
        case measure => simp [intOf]; omega
      · simp only [Act.put, List.getElem_toArray, List.getElem_cons_succ, List.getElem_cons_zero, List.setIfInBounds_toArray, List.set_cons_zero, List.set_cons_succ]
        obtain ⟨D, hD⟩ : ∃ D, wr.drew.heap.size = D := ⟨_, rfl⟩
        obtain ⟨V0, hVe⟩ : ∃ V0, wr.drew.alloc (.cells #[.int .i64 0, .slice none 0 0] TD6) = V0 := ⟨_, rfl⟩
        have hV0 : Hid (V0.heap[D]? = some (oDg 0 none 0 0) ∧ V0.heap[w.heap.size]? = some (oDg n a m lc) ∧ RepD V0 k (runT k h r i).1 n a m lc ∧ wr.heap.size ≤ D ∧ D < V0.heap.size ∧ Below wr.heap.size wr V0) := by
          rw [← hVe, ← hD]
          exact ⟨heap_alloc_new _ _, blk_on (blk_on hTH.out.1 hS.out) (boxed _ _), (hTH.out.2.1.later hS.out).later (boxed _ _), hS.out.size, by rw [World.size_alloc]; omega, bthen hS.out (boxed _ _)⟩
        rw [hVe, hD]
        clear hD hVe
        refine reg_call3L (i := 9) (by kernel_rfl) rfl rfl 36 _ _ _ _ _ _ rfl (.int .i64 k) (.agg #[.int .i64 n, .slice a m lc]) x.val rfl rfl rfl (cf_fn Try.func36 (by kernel_rfl) (by kernel_rfl) _ _) _ (rdo_any hXD.out.1 hXD.out.2.1 hXD.out.2.2 hV0.out.2.2.1) ?_
        rintro e1 V ⟨n', a', m', lc', rfl, hR5, hb5', hf5⟩
        have hV : Hid (V.heap[D]? = some (oDg 0 none 0 0) ∧ V.heap[w.heap.size]? = some (oDg n a m lc) ∧ RepD V k (nxtC k (runT k h r i).1 x) n' a' m' lc' ∧ (∀ g ∈ blk a', g ≠ w.heap.size ∧ g < V.heap.size) ∧ (∀ g ∈ blk a', g ≠ D) ∧ wr.heap.size ≤ D ∧ Below wr.heap.size wr V) := by
          refine ⟨blk_on hV0.out.1 hb5', blk_on hV0.out.2.1 hb5', hR5, fun g hg => ?_, fun g hg => ?_, hV0.out.2.2.2.1, bthen hV0.out.2.2.2.2.2 hb5'⟩
          · have e1 := hb5'.size
            have e2 := hV0.out.2.2.2.2.2.size
            rcases hf5 g hg with q | q
            · have := hTH.out.2.2.1 g q; omega
            · have := (Array.getElem?_eq_some_iff.mp hV0.out.2.1).1; omega
          · rcases hf5 g hg with q | q
            · have h1 := (hTH.out.2.2.1 g q).2
              have := hV0.out.2.2.2.1
              omega
            · have := hV0.out.2.2.2.2.1; omega
        have hb6 : Hid (Below wr.heap.size wr V) := hV.out.2.2.2.2.2.2
        refine ⟨_, rfl, hb6.out, fun _ => ?_⟩
        clear hR5 hb5' hf5 hV0
        simp only [Act.put, List.getElem_toArray, List.getElem_cons_succ, List.getElem_cons_zero, List.setIfInBounds_toArray, List.set_cons_zero, List.set_cons_succ]
        refine reg_move (i := 10) rfl (by kernel_rfl) (by kernel_rfl) (by kernel_rfl) (fun _ _ _ _ h => h) rfl (.tuple #[.agg #[.int .i64 n', .slice a' m' lc'], .bool (fitC k (runT k h r i).1 x)]) (fun _ => rfl) hb6.out ?_
        simp only [Act.put, List.getElem_toArray, List.getElem_cons_succ, List.getElem_cons_zero, List.setIfInBounds_toArray, List.set_cons_zero, List.set_cons_succ]
        refine reg_move (i := 11) rfl (by kernel_rfl) (by kernel_rfl) (by kernel_rfl) (fun _ _ _ _ h => h) rfl (.agg #[.int .i64 n', .slice a' m' lc']) (fun _ => rfl) hb6.out ?_
        simp only [Act.put, List.getElem_toArray, List.getElem_cons_succ, List.getElem_cons_zero, List.setIfInBounds_toArray, List.set_cons_zero, List.set_cons_succ]
        refine reg_move (i := 12) rfl (by kernel_rfl) (by kernel_rfl) (by kernel_rfl) (fun _ _ _ _ h => h) rfl (.bool (fitC k (runT k h r i).1 x)) (fun _ => rfl) hb6.out ?_
        simp only [Act.put, List.getElem_toArray, List.getElem_cons_succ, List.getElem_cons_zero, List.setIfInBounds_toArray, List.set_cons_zero, List.set_cons_succ]
        clear hb6
        have hDw : Hid (wr.heap.size ≤ D ∧ w.heap.size ≠ D) := ⟨hV.out.2.2.2.2.2.1, by have := hV.out.2.2.2.2.2.1; have := hTH.out.2.2.2.2; omega⟩
        refine reg_one (i := 14) (by kernel_rfl) rfl rfl (wpList_store_row rfl TD6 _ _ rfl D #[.int .i64 n', .slice a' m' lc'] rfl rfl _ _ hV.out.1 infoDg rfl (dg_one _ _ _ _) (wpList_nil (And.intro (below_setRow hV.out.2.2.2.2.2.2 hDw.out.1 _) fun _ => ?_)))
        simp only [Act.put, List.getElem_toArray, List.getElem_cons_succ, List.getElem_cons_zero, List.setIfInBounds_toArray, List.set_cons_zero, List.set_cons_succ]
        have hSy : Hid (Below wr.heap.size wr (V.setRow D #[.int .i64 n', .slice a' m' lc'])) := below_setRow hV.out.2.2.2.2.2.2 hDw.out.1 _
        refine reg_move (i := 15) rfl (by kernel_rfl) (by kernel_rfl) (by kernel_rfl) (fun _ _ _ _ h => h) rfl (.bool (fitC k (runT k h r i).1 x)) (fun _ => rfl) hSy.out ?_
        simp only [Act.put, List.getElem_toArray, List.getElem_cons_succ, List.getElem_cons_zero, List.setIfInBounds_toArray, List.set_cons_zero, List.set_cons_succ]
        refine wpAnyH_done (by kernel_rfl) (NoPanic.normal ?_) _
        have hY : Hid ((V.setRow D #[.int .i64 n', .slice a' m' lc']).heap[D]? = some (oDg n' a' m' lc') ∧ (V.setRow D #[.int .i64 n', .slice a' m' lc']).heap[w.heap.size]? = some (oDg n a m lc) ∧ RepD (V.setRow D #[.int .i64 n', .slice a' m' lc']) k (runT k h r (i + 1)).1 n' a' m' lc' ∧ (∀ g ∈ blk a', g ≠ w.heap.size ∧ g < (V.setRow D #[.int .i64 n', .slice a' m' lc']).heap.size) ∧ Below w.heap.size w (V.setRow D #[.int .i64 n', .slice a' m' lc'])) := by
          refine ⟨setRow_heap _ _ _ _ _ _ hV.out.1, (setRow_other _ _ _ _ hDw.out.2).trans hV.out.2.1, ?_, fun g hg => ⟨(hV.out.2.2.2.1 g hg).1, by rw [setRow_size]; exact (hV.out.2.2.2.1 g hg).2⟩, bthen hTH.out.2.2.2.1 hSy.out⟩
          rw [hsH.out]
          exact hV.out.2.2.1.imp_right fun ⟨q1, q2, q3, q4⟩ => ⟨q1, q2, q3, rows_keepL q4 fun g hg => setRow_other _ _ _ _ (hV.out.2.2.2.2.1 g hg)⟩
        generalize World.setRow V D _ = Y at *
        clear hV hDw hSy hTH hRd hXD hsH hS r3H x1 c1 x3
        go_wp2_with (first
          | ((with_reducible refine at_loadL TD6 (.tmp 9) rfl ?_); refine stopL_out ?_; refine wpList_load_row rfl TD6 _ rfl D rfl _ _ _ _ hY.out.1 huD.out rfl infoDg ?_)
          | ((with_reducible refine at_storeL TD6 (.tmp 7) _ rfl ?_); refine stopL_out ?_; refine wpList_store_row rfl TD6 _ _ rfl w.heap.size #[.int .i64 n', .slice a' m' lc'] rfl rfl _ _ hY.out.2.1 infoDg rfl (dg_one _ _ _ _) ?_))
        go_roundw
        case rel => exact ⟨i + 1, by omega, by go_num, FiS.put hY.out.2.1 hY.out.2.2.1 hY.out.2.2.2.1 hY.out.2.2.2.2⟩
        case measure => simp [intOf]; omega
    · have hie : i = r.length := by omega
      have hiI : ¬ (i : Int) < r.length := by omega
      have hE : (runT k h r i).1 = (runC k h (firstC k) r).1 := by rw [hie, runT_all]
      obtain ⟨n, a, m, lc, hT, hRp, hbk⟩ := hst.out.ex
      rw [hE] at hRp
      obtain ⟨c, hc'⟩ : ∃ c, (runC k h (firstC k) r).1 = c := ⟨_, rfl⟩
      have hcH : Hid ((runC k h (firstC k) r).1 = c) := hc'
      rw [hc'] at hRp
      clear hc'
      have hB : Hid (Below w.heap.size w wr) := hst.out.b
      obtain ⟨k0, k1⟩ : wr.cell? ⟨w.heap.size, 0, none⟩ = some (.int .i64 n) ∧ wr.cell? ⟨w.heap.size, 1, none⟩ = some (.slice a m lc) := ⟨cell_lc (k := 0) hT rfl, cell_lc (k := 1) hT rfl⟩
      clear hst hE hbk hT
      rcases hRp with ⟨hk, rfl, rfl, rfl, rfl⟩ | ⟨hk, rfl, hm, hro⟩
      · rcases hk with rfl | rfl
        · go_wp2_with (first | (refine wpList_buildSlice rfl 36 2 1 _ rfl (chCells n).toArray iN _ Try.underlying36 hiN.out hzN.out (by rw [hsN.out]; omega) (by rw [hsN.out]; omega) (by simp only [hsN.out]; kernel_rfl) ?_))
          go_ret
          exact ⟨some ⟨wr.heap.size, 0, none⟩, 1, by (rw [hcH.out]; rfl), by (rw [hcH.out]; exact rows_ints (L := [n]) (heap_alloc_new _ _) (by simp)), bthen hB.out (boxed _ _)⟩
        · go_wp2_with (first | (refine wpList_buildSlice rfl 36 2 1 _ rfl (chCells n).toArray iN _ Try.underlying36 hiN.out hzN.out (by rw [hsN.out]; omega) (by rw [hsN.out]; omega) (by simp only [hsN.out]; kernel_rfl) ?_))
          go_ret
          exact ⟨some ⟨wr.heap.size, 0, none⟩, 1, by (rw [hcH.out]; rfl), by (rw [hcH.out]; exact rows_ints (L := [n]) (heap_alloc_new _ _) (by simp)), bthen hB.out (boxed _ _)⟩
      · have hroH : Hid (Rows wr 1 a lc (c.map chCells)) := hro
        clear hro
        rcases hk with rfl | rfl
        · go_wp2
          go_ret
          exact ⟨a, lc, by (rw [hcH.out]; first | rfl | (rw [hm]; rfl)), by (rw [hcH.out]; exact hroH.out), hB.out⟩
        · go_wp2
          go_ret
          exact ⟨a, lc, by (rw [hcH.out]; first | rfl | (rw [hm]; rfl)), by (rw [hcH.out]; exact hroH.out), hB.out⟩
end
end Go.Proofs.Ytklpifammbnldaa.pg
/- What is in the thing behind an order, in the package. -/
namespace Go.Proofs.Ytklpifammbnldaa.pg
open Go.ChangeShapes Go.WideShapes Go.ChangeAt Go.RowKit
set_option linter.unusedVariables false
set_option linter.unusedSimpArgs false
set_option maxRecDepth 100000
attribute [local go_sem ↓] Go.wp_at_zero Go.wp_at_succ
theorem eql_nilL {P : Program} (w : World) (t e : TypeId) (a : Option Addr) (l c : Nat) (h : P.underlying t = some (.slice e)) : (binOp .eql t (.slice a l c) (.slice none 0 0)).run P w = .ok (.bool a.isNone) w := by
  simp [binOp, run_equal_slice_nil w t e a l c h]
theorem vC_at {c : List Int} {i : Nat} (hi : i < 8) : (vC c)[i]? = some (.int .i64 (c.getD i 0)) := by
  match i, hi with
  | 0, _ => rfl
  | 1, _ => rfl
  | 2, _ => rfl
  | 3, _ => rfl
  | 4, _ => rfl
  | 5, _ => rfl
  | 6, _ => rfl
  | 7, _ => rfl
theorem rows_vC {W : World} {B : Nat} {c : List Int} {t : TypeId} (h : W.heap[B]? = some (.cells (vC c) t (0, 0))) (hl : c.length ≤ 8) : Rows W 1 (some ⟨B, 0, none⟩) 8 (c.map chCells) := by
  refine ⟨by simpa using hl, by decide, by simp, .inr ⟨B, 0, rfl, (Array.getElem?_eq_some_iff.mp h).1, fun i row hi => ?_⟩⟩
  rw [List.getElem?_map] at hi
  cases hx : c[i]? with
  | none => rw [hx] at hi; cases hi
  | some x =>
    rw [hx] at hi
    obtain rfl : chCells x = row := Option.some.inj hi
    have hi' : i < c.length := (List.getElem?_eq_some_iff.mp hx).1
    refine ⟨rfl, fun t' u ht => ?_⟩
    have ht0 : t' = 0 ∧ u = .int .i64 x := by
      cases t' with
      | zero => exact ⟨rfl, (Option.some.inj ht).symm⟩
      | succ q => simp [chCells] at ht
    obtain ⟨rfl, rfl⟩ := ht0
    have e : 0 + (i * 1 + 0) = i := by omega
    rw [e]
    refine cell_lc h ?_
    rw [vC_at (by omega), List.getD_eq_getElem?_getD, hx]; rfl
theorem cutA8 (B j : Nat) (hj : j ≤ 8) : ∀ wx, (Instr.sliceAt 57 (.pointer (some ⟨B, 0, none⟩)) none (some (.int .i64 (j : Int))) none).run Try.prog wx = .ok (.slice (some ⟨B, 0, none⟩) j 8) wx := fun wx => by
  have u := Try.underlying57
  have z := Try.sizeOf2
  have h8 : j = 0 ∨ j = 1 ∨ j = 2 ∨ j = 3 ∨ j = 4 ∨ j = 5 ∨ j = 6 ∨ j = 7 ∨ j = 8 := by omega
  rcases h8 with rfl | rfl | rfl | rfl | rfl | rfl | rfl | rfl | rfl
  all_goals simp [Instr.sliceAt, run_underlying u, asIntOf, go_sem, z]
theorem results_tmp2L {fn : Func} {t u : Tmp} (h : fn.results = #[.tmp t, .tmp u]) (tmps : Array Value) (P : Program) (w : World) :
    (results fn tmps).run P w = .ok (.tuple #[tmps.getD t undef, tmps.getD u undef]) w := by
  simp [results, h]
theorem clone_I64 (L : List (List Value)) (a : Option Addr) (cap : Nat) (w : World) (h : Rows w 1 a cap L) (hk : ∀ row ∈ L, row.length = 1) (h1 : ∀ row ∈ L, ∀ u ∈ row, u.oneCell' = true) (hz : L.length * 8 ≤ 140737488355328) :
    Calls Try.prog 35 #[.slice a L.length cap] w fun e w' => ∃ va vc, e = .returned (.slice va L.length vc) ∧ OwnL w' w.heap.size 2 1 va vc L ∧ Below w.heap.size w w' := by
  obtain ⟨i, hi, hzz, hs, hb⟩ := info_q infoI64
  cases a with
  | none =>
    obtain ⟨h0, h2⟩ := h.2.2.1 rfl
    subst h0
    subst h2
    have hen : ∀ wx, (binOp .eql 36 (.slice none 0 0) (.slice none 0 0)).run Try.prog wx = .ok (.bool true) wx := fun wx => eql_nilL wx _ _ none _ _ Try.underlying36
    go_enter Try.func35, Try.ntmps35
    go_wp2
    go_ret
    exact ⟨none, 0, rfl, ⟨by simp, .inl ⟨rfl, rfl⟩⟩, Below.refl _ _⟩
  | some ad =>
    have hbs : Hid (w.heap.size ≤ (w.alloc (.cells #[] 2)).heap.size) := by simp only [Hid, World.size_alloc]; omega
    have hgo : Hid (OwnL (w.alloc (.cells #[] 2)) w.heap.size 2 1 (some ⟨w.heap.size, 0, none⟩) 0 []) := own_empty w _ _ _ (Nat.le_refl _)
    have hrow : Hid (Rows (w.alloc (.cells #[] 2)) 1 (some ad) cap L) := h.later (boxed _ _)
    have hbe : Hid (Below w.heap.size w (w.alloc (.cells #[] 2))) := boxed _ _
    have hmx : Hid (L.length ≤ maxLen) := by show _ ≤ _; unfold maxLen; omega
    have hzH : Hid (L.length * 8 ≤ 140737488355328) := hz
    have hen : ∀ wx, (binOp .eql 36 (.slice (some ad) L.length cap) (.slice none 0 0)).run Try.prog wx = .ok (.bool false) wx := fun wx => eql_nilL wx _ _ (some ad) _ _ Try.underlying36
    clear h hz
    go_enter Try.func35, Try.ntmps35
    go_wp2_with (first
      | (at_builtin; (refine wpList_app rfl (.tmp 5) (.tmp 6) 36 rfl w.heap.size 2 i _ 1 8 Try.underlying36 hi hzz hs hb rfl (by decide) (some ⟨w.heap.size, 0, none⟩) 0 [] rfl hgo.out (some ad) cap L rfl hrow.out hk h1 (by have := hmx.out; simpa using this) (by have := hzH.out; simpa using this) hbs.out ?_); intro va' vc' w2 ho2 hk2 hB2 hbl2; simp only [List.nil_append] at ho2 ⊢))
    go_ret
    exact ⟨va', vc', rfl, ho2, hbe.out.trans (hB2.mono (by have := hbs.out; omega))⟩
section
variable {w : World} {k : Int} {h : List Cl} {ha oa : Option Addr} {hc oc : Nat} {r : List Nat} {o : List Int}
set_option maxHeartbeats 2000000 in
theorem last_no (hh : Rows w 7 ha hc (h.map Cl.cells)) (hR : ¬ RightH k h) (y : Value) : Calls Try.prog 18 #[.int .i64 k, .slice ha h.length hc, y] w fun e w' => e = .returned (.tuple #[.slice none 0 0, .int .i64 260]) ∧ Below w.heap.size w w' := by
  have cF := follow_no hh hR y
  clear hh hR
  go_enter Try.func18, Try.ntmps18
  go_wp2_with (first
    | (go_at_call 33; (with_reducible refine cF.mono ?_); rintro e w1 ⟨rfl, hb1⟩; (have hbH : Hid (Below w.heap.size w w1) := hb1); clear hb1 cF)
    | ((with_reducible refine at_allocL 59 rfl ?_); refine stopL_out ?_; refine wpList_alloc_big rfl 59 rfl zeroCo ?_)
    | ((with_reducible refine at_storeL 59 _ _ rfl ?_); refine stopL_out ?_; refine wpList_store_row rfl 59 _ _ rfl w1.heap.size z9 rfl rfl _ _ (heap_alloc_new _ _) infoC9 rfl z9_one ?_))
  exact bodyPost_ret (results_tmp2L rfl _ _ _) rfl ⟨rfl, bthen hbH.out new_row.2⟩
set_option maxHeartbeats 2000000 in
theorem last_bad (hh : Rows w 7 ha hc (h.map Cl.cells)) (hR : RightH k h) (ho : Rows w 1 oa oc (o.map chCells)) (hol : o.length < 2 ^ 62) (hor : isOrdB h o = false) : Calls Try.prog 18 #[.int .i64 k, .slice ha h.length hc, .slice oa o.length oc] w fun e w' => e = .returned (.tuple #[.slice none 0 0, .int .i64 1]) ∧ Below w.heap.size w w' := by
  have cF := follow_bad hh hR ho hol hor
  clear hh hR ho hol hor
  go_enter Try.func18, Try.ntmps18
  go_wp2_with (first
    | (go_at_call 33; (with_reducible refine cF.mono ?_); rintro e w1 ⟨rfl, hb1⟩; (have hbH : Hid (Below w.heap.size w w1) := hb1); clear hb1 cF)
    | ((with_reducible refine at_allocL 59 rfl ?_); refine stopL_out ?_; refine wpList_alloc_big rfl 59 rfl zeroCo ?_)
    | ((with_reducible refine at_storeL 59 _ _ rfl ?_); refine stopL_out ?_; refine wpList_store_row rfl 59 _ _ rfl w1.heap.size z9 rfl rfl _ _ (heap_alloc_new _ _) infoC9 rfl z9_one ?_))
  exact bodyPost_ret (results_tmp2L rfl _ _ _) rfl ⟨rfl, bthen hbH.out new_row.2⟩
set_option maxHeartbeats 2000000 in
theorem last_ok (hh : Rows w 7 ha hc (h.map Cl.cells)) (hI : ∀ x ∈ h, I64 x.inn) (hR : RightH k h) (ho : Rows w 1 oa oc ((asI r).map chCells)) (hor : isOrdB h (asI r) = true) (hr : ∀ x ∈ r, x < h.length) (hr8 : r.length ≤ 8) : Calls Try.prog 18 #[.int .i64 k, .slice ha h.length hc, .slice oa r.length oc] w fun e w' => ∃ va vc, e = .returned (.tuple #[.slice va (runC k h (firstC k) r).1.length vc, .int .i64 0]) ∧ Rows w' 1 va vc ((runC k h (firstC k) r).1.map chCells) ∧ Below w.heap.size w w' := by
  have cF := follow_ok hh hI hR ho hor hr hr8
  have hle : (runC k h (firstC k) r).1.length ≤ 8 := by
    have := runT_inv hR hI hr r.length (Nat.le_refl _)
    rw [runT_all] at this
    have hk := hR.kd
    by_cases q : k = 1 ∨ k = 2
    · have := this.one q; omega
    · have := this.lst (by omega); omega
  clear hh hI hR ho hor hr hr8
  generalize runC k h (firstC k) r = R at *
  obtain ⟨c, f⟩ := R
  have hleH : Hid (c.length ≤ 8) := hle
  have hnI : (c.length : Int) ≤ 8 := by have : c.length ≤ 8 := hle; omega
  clear hle
  go_enter Try.func18, Try.ntmps18
  go_upto_region 4 with (first
    | (go_at_call 33; (with_reducible refine cF.mono ?_); rintro e w1 ⟨rfl, hb1⟩; (have hbH : Hid (Below w.heap.size w w1) := hb1); clear hb1 cF)
    | ((with_reducible refine at_allocL 59 rfl ?_); refine stopL_out ?_; refine wpList_alloc_big rfl 59 rfl zeroCo ?_)
    | ((with_reducible refine at_storeL 59 _ _ rfl ?_); refine stopL_out ?_; refine wpList_store_row rfl 59 _ _ rfl w1.heap.size (vC c) rfl rfl _ _ (heap_alloc_new _ _) infoC9 rfl (vC_one _) ?_))
  obtain ⟨V, hV⟩ : ∃ V, (w1.alloc (.cells z9 59)).setRow w1.heap.size (vC c) = V := ⟨_, rfl⟩
  have hVH : Hid (V.heap[w1.heap.size]? = some (.cells (vC c) TC) ∧ Below w.heap.size w V) := by
    rw [← hV]
    exact ⟨new_row.1, bthen hbH.out new_row.2⟩
  rw [hV]
  clear hV hbH
  generalize w1.heap.size = B at *
  have c8 : V.cell? ⟨B, 8, none⟩ = some (.int .i64 (c.length : Int)) := cell_lc hVH.out.1 rfl
  have cu := cutA8 B c.length hleH.out
  have cC := clone_I64 (c.map chCells) (some ⟨B, 0, none⟩) 8 V (rows_vC hVH.out.1 hleH.out) (fun row hr => by obtain ⟨z, _, rfl⟩ := List.mem_map.mp hr; rfl) (fun row hr u hu => by obtain ⟨z, _, rfl⟩ := List.mem_map.mp hr; simp [chCells] at hu; subst hu; rfl) (by rw [List.length_map]; have := hleH.out; omega)
  rw [List.length_map] at cC
  go_wp2_with (first
    | (go_at_call 35; (with_reducible refine cC.mono ?_); rintro e w2 ⟨va, vc, rfl, ho2', hb2'⟩; (have h2H : Hid (OwnL w2 V.heap.size 2 1 va vc (c.map chCells) ∧ Below V.heap.size V w2) := ⟨ho2', hb2'⟩); clear ho2' hb2'))
  exact bodyPost_ret (results_tmp2L rfl _ _ _) rfl ⟨va, vc, rfl, own_rows h2H.out.1 (fun row hr => by obtain ⟨z, _, rfl⟩ := List.mem_map.mp hr; rfl), bthen hVH.out.2 h2H.out.2⟩
end
end Go.Proofs.Ytklpifammbnldaa.pg
/- Whether an order fits, and what is in the thing behind it: LinearFits, walked. -/
namespace Go.Proofs.Ytklpifammbnldaa.pg
open Go.ChangeShapes Go.WideShapes Go.ChangeAt Go.RowKit
set_option linter.unusedVariables false
set_option linter.unusedSimpArgs false
set_option maxRecDepth 100000
attribute [local go_sem ↓] Go.wp_at_zero Go.wp_at_succ
/-- An order in memory, as it came in. -/
def IntsIn (w : World) (a : Option Addr) (cap : Nat) (l : List Int) : Prop := Rows w 1 a cap (l.map chCells) ∧ l.length < 2 ^ 62
section
variable {H : Type} {enc : TypeId × Value → H} {w : World} {base : Nat} {spare : Nat → Bool} {held : Bool}
theorem ints_sz {n : Nat} {a : Option Addr} {len cap : Nat} {y : DataW H × List MemPlace} (h : DataW.trod enc Try.prog w base spare held n 26 [.slice a len cap] = some y) (hs : Sz Try.prog 26 y.1) : ∃ l : List Int, l.length = len ∧ IntsIn w a cap l := by
  obtain ⟨l, rfl, h1, h2, h3⟩ := rows_sz (k := 1) 0 chCells I64 Try.underlying26 (by kernel_rfl) (by omega) (fun n cs y hl h _ => by
    match cs, hl, h with
    | [c0], _, h =>
      obtain ⟨z, rfl, b⟩ := int_in Try.underlying3 h
      exact ⟨z, rfl, b⟩) h hs
  refine ⟨l, rfl, h1, ?_⟩
  have e : Try.prog.bytesOf 3 = 8 := by kernel_rfl
  rw [e] at h3
  have : reachBytes < 2 ^ 62 := by decide
  omega
end
theorem keeps_up {rel : Cl → Cl → Bool} {h : List Cl} {r : List Nat} {q : Nat → Nat → Bool} (e : ∀ i j, j < i → i < r.length → q i j = !rel (hf h (rg r i)) (hf h (rg r j))) : keepsB rel h r = upA q r.length := by
  rw [Bool.eq_iff_iff]
  unfold keepsB upA inA
  rw [decide_eq_true_iff, List.pairwise_iff_getElem, List.all_eq_true]
  constructor
  · intro p i hi
    rw [List.mem_range] at hi
    rw [List.all_eq_true]
    intro j hj
    rw [List.mem_range] at hj
    have := p j i (by omega) hi hj
    rw [rg_get hi, rg_get (show j < r.length by omega)] at this
    rw [e i j hj hi, this]; rfl
  · intro p j i hj hi hji
    have := List.all_eq_true.mp (p i (List.mem_range.mpr hi)) j (List.mem_range.mpr hji)
    rw [e i j hji hi] at this
    rw [rg_get hi, rg_get hj]
    simpa using this
theorem go_eq_bg {k : Int} {h : List Cl} (hR : RightH k h) {i j : Nat} (hi : i < h.length) (hj : j < h.length) (hij : i ≠ j) : (hf h i).bg ≠ (hf h j).bg := by
  have aux : ∀ {a b : Nat}, b < a → a < h.length → (hf h a).bg ≠ (hf h b).bg := fun hba ha q => by
    have := hR.pair hba ha
    unfold pairB momB at this
    rw [q] at this
    simp at this
  rcases Nat.lt_or_ge j i with q | q
  · exact aux q hi
  · exact fun e => aux (show i < j by omega) hj e.symm
/-- An order, as places. -/
theorem ord_places {h : List Cl} {o : List Int} (hn : h.length ≤ 8) (q : isOrdB h o = true) : ∃ r : List Nat, o = asI r ∧ (∀ x ∈ r, x < h.length) ∧ r.Nodup ∧ r.length ≤ 8 := by
  unfold isOrdB at q
  rw [Bool.and_eq_true, decide_eq_true_iff] at q
  obtain ⟨⟨hd, hm⟩, _⟩ := q
  have e : o = asI (o.map Int.toNat) := by
    unfold asI
    rw [List.map_map]
    symm
    rw [List.map_congr_left (g := id) (fun x hx => by have := (hm x hx).1; simp; omega), List.map_id]
  have h1 : ∀ x ∈ o.map Int.toNat, x < h.length := fun x hx => by
    obtain ⟨y, hy, rfl⟩ := List.mem_map.mp hx
    have := hm y hy
    omega
  have h2 : (o.map Int.toNat).Nodup := by
    have hd2 : (asI (o.map Int.toNat)).Nodup := by rw [← e]; exact hd
    unfold asI at hd2
    exact (List.pairwise_map.mp hd2).imp fun hab q => hab (by rw [q])
  exact ⟨_, e, h1, h2, Nat.le_trans (len_nodup h.length _ h2 h1) hn⟩
section
variable {w : World} {k : Int} {h : List Cl} {ha oa : Option Addr} {hc oc : Nat} {o : List Int} {r : List Nat}
set_option maxHeartbeats 4000000 in
theorem fitsL_no (hh : Rows w 7 ha hc (h.map Cl.cells)) (hR : ¬ RightH k h) (y : Value) : Calls Try.prog 4 #[.int .i64 k, .slice ha h.length hc, y] w fun e w' => e = .returned (.bool true) ∧ Below w.heap.size w w' := by
  have hhH : Hid (∀ wx, Below w.heap.size w wx → Rows wx 7 ha hc (h.map Cl.cells)) := fun wx q => hh.later q
  have hRH : Hid (¬ RightH k h) := hR
  have cF : ∀ wx, Below w.heap.size w wx → Calls Try.prog 17 #[.int .i64 k, .slice ha h.length hc, y] wx _ := fun wx q => fits_no (hhH.out wx q) hRH.out y
  have cL : ∀ wx, Below w.heap.size w wx → Calls Try.prog 18 #[.int .i64 k, .slice ha h.length hc, y] wx _ := fun wx q => last_no (hhH.out wx q) hRH.out y
  have cC : ∀ wx, Below w.heap.size w wx → Calls Try.prog 9 #[.int .i64 k, .slice ha h.length hc] wx _ := fun wx q => rcheckH_any (hhH.out wx q)
  have cS : ∀ wx, Calls Try.prog 13 #[] wx _ := fun wx => speaks_lin wx
  clear hh hR
  go_enter Try.func4, Try.ntmps4
  go_wp2_with (first
    | (go_at_call 17; (with_reducible refine (cF _ (Below.refl _ _)).mono ?_); rintro e w1 ⟨rfl, hb⟩; (have hB1 : Hid (Below w.heap.size w w1) := hb); clear hb cF)
    | (go_at_call 18; (with_reducible refine (cL _ hB1.out).mono ?_); rintro e w2 ⟨rfl, hb⟩; (have hB2 : Hid (Below w.heap.size w w2) := bthen hB1.out hb); clear hb cL)
    | (go_at_call 9; (with_reducible refine (cC _ hB2.out).mono ?_); rintro e w3 ⟨hq, hb⟩; (obtain rfl := (hq.elim (fun q => absurd q.1 hRH.out) (fun q => q.2))); (have hB3 : Hid (Below w.heap.size w w3) := bthen hB2.out hb); clear hb hq)
    | (go_at_call 13; (with_reducible refine (cS _).mono ?_); rintro e w9 ⟨rfl, hb⟩; (have hB9 : Hid (Below w.heap.size w w9) := bthen hB3.out hb); clear hb))
  go_ret
  exact ⟨rfl, hB9.out⟩
set_option maxHeartbeats 4000000 in
theorem fitsL_bad (hh : Rows w 7 ha hc (h.map Cl.cells)) (hR : RightH k h) (ho : Rows w 1 oa oc (o.map chCells)) (hol : o.length < 2 ^ 62) (hor : isOrdB h o = false) : Calls Try.prog 4 #[.int .i64 k, .slice ha h.length hc, .slice oa o.length oc] w fun e w' => e = .returned (.bool true) ∧ Below w.heap.size w w' := by
  have hhH : Hid (∀ wx, Below w.heap.size w wx → Rows wx 7 ha hc (h.map Cl.cells) ∧ Rows wx 1 oa oc (o.map chCells)) := fun wx q => ⟨hh.later q, ho.later q⟩
  have hRH : Hid (RightH k h) := hR
  have cF : ∀ wx, Below w.heap.size w wx → Calls Try.prog 17 #[.int .i64 k, .slice ha h.length hc, .slice oa o.length oc] wx _ := fun wx q => fits_bad (hhH.out wx q).1 hRH.out (hhH.out wx q).2 hol hor
  have cL : ∀ wx, Below w.heap.size w wx → Calls Try.prog 18 #[.int .i64 k, .slice ha h.length hc, .slice oa o.length oc] wx _ := fun wx q => last_bad (hhH.out wx q).1 hRH.out (hhH.out wx q).2 hol hor
  have cC : ∀ wx, Below w.heap.size w wx → Calls Try.prog 9 #[.int .i64 k, .slice ha h.length hc] wx _ := fun wx q => rcheckH_any (hhH.out wx q).1
  have cO : ∀ wx, Below w.heap.size w wx → Calls Try.prog 19 #[.slice ha h.length hc, .slice oa o.length oc] wx fun e w' => e = .returned (.bool false) ∧ Below wx.heap.size wx w' := fun wx q => by
    have := rorderL_any h ha hc o oa oc wx (hhH.out wx q).1 (hhH.out wx q).2 hRH.out.n hol
    rw [hor] at this
    exact this
  have cS : ∀ wx, Calls Try.prog 13 #[] wx _ := fun wx => speaks_lin wx
  clear hh hR ho
  go_enter Try.func4, Try.ntmps4
  go_wp2_with (first
    | (go_at_call 17; (with_reducible refine (cF _ (Below.refl _ _)).mono ?_); rintro e w1 ⟨rfl, hb⟩; (have hB1 : Hid (Below w.heap.size w w1) := hb); clear hb cF)
    | (go_at_call 18; (with_reducible refine (cL _ hB1.out).mono ?_); rintro e w2 ⟨rfl, hb⟩; (have hB2 : Hid (Below w.heap.size w w2) := bthen hB1.out hb); clear hb cL)
    | (go_at_call 9; (with_reducible refine (cC _ hB2.out).mono ?_); rintro e w3 ⟨hq, hb⟩; (obtain rfl := (hq.elim (fun q => q.2) (fun q => absurd hRH.out q.1))); (have hB3 : Hid (Below w.heap.size w w3) := bthen hB2.out hb); clear hb hq)
    | (go_at_call 19; (with_reducible refine (cO _ hB3.out).mono ?_); rintro e w4 ⟨rfl, hb⟩; (have hB4 : Hid (Below w.heap.size w w4) := bthen hB3.out hb); clear hb cO)
    | (go_at_call 13; (with_reducible refine (cS _).mono ?_); rintro e w9 ⟨rfl, hb⟩; (have hB9 : Hid (Below w.heap.size w w9) := bthen hB4.out hb); clear hb))
  go_ret
  exact ⟨rfl, hB9.out⟩
set_option maxHeartbeats 4000000 in
theorem fitsL_ok (hh : Rows w 7 ha hc (h.map Cl.cells)) (hI : ∀ x ∈ h, I64 x.inn) (hR : RightH k h) (ho : Rows w 1 oa oc ((asI r).map chCells)) (hor : isOrdB h (asI r) = true) (hr : ∀ x ∈ r, x < h.length) (hr8 : r.length ≤ 8) (hnd : r.Nodup) : Calls Try.prog 4 #[.int .i64 k, .slice ha h.length hc, .slice oa r.length oc] w fun e w' => e = .returned (.bool true) ∧ Below w.heap.size w w' := by
  have hhH : Hid (∀ wx, Below w.heap.size w wx → Rows wx 7 ha hc (h.map Cl.cells) ∧ Rows wx 1 oa oc ((asI r).map chCells)) := fun wx q => ⟨hh.later q, ho.later q⟩
  have hRH : Hid (RightH k h) := hR
  have hle : (runC k h (firstC k) r).1.length ≤ 8 := by
    have := runT_inv hR hI hr r.length (Nat.le_refl _)
    rw [runT_all] at this
    have hk := hR.kd
    by_cases q : k = 1 ∨ k = 2
    · have := this.one q; omega
    · have := this.lst (by omega); omega
  have e1 : upA (qEnd h r) r.length = keepsB endB h r := (keeps_up fun i j _ _ => rfl).symm
  have e2 : upA (qTrn h r) r.length = keepsB turnB h r := (keeps_up fun i j hji hi => by
    have hi' := hr _ (List.mem_of_getElem? (rg_at hi))
    have hj' := hr _ (List.mem_of_getElem? (rg_at (show j < r.length by omega)))
    have hne : rg r i ≠ rg r j := fun q => by
      have := List.pairwise_iff_getElem.mp hnd j i (by omega) hi hji
      rw [rg_get hi, rg_get (show j < r.length by omega)] at this
      exact this q.symm
    have hb := go_eq_bg hR hi' hj' hne
    unfold qTrn turnB
    by_cases g : (hf h (rg r i)).go = (hf h (rg r j)).go
    · simp only [g, bne_self_eq_false, Bool.false_or, beq_self_eq_true, Bool.true_and]
      by_cases l : (hf h (rg r j)).bg < (hf h (rg r i)).bg
      · rw [decide_eq_true l, decide_eq_false (show ¬ (hf h (rg r i)).bg < (hf h (rg r j)).bg by omega)]; rfl
      · rw [decide_eq_false l, decide_eq_true (show (hf h (rg r i)).bg < (hf h (rg r j)).bg by omega)]; rfl
    · have gb : ((hf h (rg r i)).go == (hf h (rg r j)).go) = false := beq_eq_false_iff_ne.mpr g
      simp only [bne, gb, Bool.not_false, Bool.true_or, Bool.false_and]).symm
  have cF : ∀ wx, Below w.heap.size w wx → Calls Try.prog 17 #[.int .i64 k, .slice ha h.length hc, .slice oa r.length oc] wx _ := fun wx q => fits_ok (hhH.out wx q).1 hI hRH.out (hhH.out wx q).2 hor hr hr8
  have cL : ∀ wx, Below w.heap.size w wx → Calls Try.prog 18 #[.int .i64 k, .slice ha h.length hc, .slice oa r.length oc] wx _ := fun wx q => last_ok (hhH.out wx q).1 hI hRH.out (hhH.out wx q).2 hor hr hr8
  have cC : ∀ wx, Below w.heap.size w wx → Calls Try.prog 9 #[.int .i64 k, .slice ha h.length hc] wx _ := fun wx q => rcheckH_any (hhH.out wx q).1
  have cO : ∀ wx, Below w.heap.size w wx → Calls Try.prog 19 #[.slice ha h.length hc, .slice oa r.length oc] wx fun e w' => e = .returned (.bool true) ∧ Below wx.heap.size wx w' := fun wx q => by
    have := rorderL_any h ha hc (asI r) oa oc wx (hhH.out wx q).1 (hhH.out wx q).2 hRH.out.n (by rw [List.length_map]; omega)
    rw [hor, List.length_map] at this
    exact this
  have cG : ∀ wx, Below w.heap.size w wx → Calls Try.prog 20 #[.int .i64 k, .slice ha h.length hc, .slice oa r.length oc] wx _ := fun wx q => rfitsL_any (hhH.out wx q).1 hI hRH.out (hhH.out wx q).2 hr hr8
  have cM : ∀ wx, Below w.heap.size w wx → Calls Try.prog 21 #[.int .i64 k, .slice ha h.length hc, .slice oa r.length oc] wx _ := fun wx q => rlastL_any (hhH.out wx q).1 hI hRH.out (hhH.out wx q).2 hr hr8
  have cS : ∀ wx, Calls Try.prog 13 #[] wx _ := fun wx => speaks_lin wx
  rw [e1, e2] at cG
  clear hh hR ho e1 e2 hor hr hr8 hnd hI
  generalize keepsB endB h r = t1 at *
  generalize keepsB turnB h r = t2 at *
  generalize runC k h (firstC k) r = R at *
  obtain ⟨c, f⟩ := R
  have hlc : c.length ≤ 8 := hle
  clear hle
  go_enter Try.func4, Try.ntmps4
  go_wp2_with (first
    | (go_at_call 17; (with_reducible refine (cF _ (Below.refl _ _)).mono ?_); rintro e w1 ⟨rfl, hb⟩; (have hB1 : Hid (Below w.heap.size w w1) := hb); clear hb cF)
    | (go_at_call 18; (with_reducible refine (cL _ hB1.out).mono ?_); rintro e w2 ⟨va, vc, rfl, hv, hb⟩; (have hB2 : Hid (Below w.heap.size w w2 ∧ Rows w2 1 va vc (c.map chCells)) := ⟨bthen hB1.out hb, hv⟩); clear hb hv cL)
    | (go_at_call 9; (with_reducible refine (cC _ hB2.out.1).mono ?_); rintro e w3 ⟨hq, hb⟩; (obtain rfl := (hq.elim (fun q => q.2) (fun q => absurd hRH.out q.1))); (have hB3 : Hid (Below w.heap.size w w3 ∧ Rows w3 1 va vc (c.map chCells)) := ⟨bthen hB2.out.1 hb, hB2.out.2.later hb⟩); clear hb hq)
    | (go_at_call 19; (with_reducible refine (cO _ hB3.out.1).mono ?_); rintro e w4 ⟨rfl, hb⟩; (have hB4 : Hid (Below w.heap.size w w4 ∧ Rows w4 1 va vc (c.map chCells)) := ⟨bthen hB3.out.1 hb, hB3.out.2.later hb⟩); clear hb cO)
    | (go_at_call 13; (with_reducible refine (cS _).mono ?_); rintro e w5 ⟨rfl, hb⟩; (have hB5 : Hid (Below w.heap.size w w5 ∧ Rows w5 1 va vc (c.map chCells)) := ⟨bthen hB4.out.1 hb, hB4.out.2.later hb⟩); clear hb)
    | (go_at_call 20; (with_reducible refine (cG _ hB5.out.1).mono ?_); rintro e w6 ⟨rfl, hb⟩; (have hB6 : Hid (Below w.heap.size w w6 ∧ Rows w6 1 va vc (c.map chCells)) := ⟨bthen hB5.out.1 hb, hB5.out.2.later hb⟩); clear hb cG)
    | (go_at_call 21; (with_reducible refine (cM _ hB6.out.1).mono ?_); rintro e w7 ⟨za, zc, rfl, hz, hb⟩; (have hB7 : Hid (Below w.heap.size w w7 ∧ Rows w7 1 va vc (c.map chCells) ∧ Rows w7 1 za zc (c.map chCells)) := ⟨bthen hB6.out.1 hb, hB6.out.2.later hb, hz⟩); clear hb hz cM))
  clear hB1 hB2 hB3 hB4 hB5 hB6
  go_loopw [18] (fun u wr => ∃ i : Nat, i ≤ c.length ∧ u = .int .i64 (i : Int) ∧ Hid (Below w.heap.size w wr ∧ Rows wr 1 va vc (c.map chCells) ∧ Rows wr 1 za zc (c.map chCells))) (fun u _ => c.length - (intOf u).toNat)
  case atStart => exact ⟨0, Nat.zero_le _, rfl, hB7.out⟩
  case round =>
    obtain ⟨i, hi, rfl, hst⟩ := hrel
    clear hB7
    have hB7 : Hid (Below w.heap.size w wr ∧ Rows wr 1 va vc (c.map chCells) ∧ Rows wr 1 za zc (c.map chCells)) := hst
    clear hst
    by_cases hlt : i < c.length
    · have hiI : (i : Int) < c.length := by omega
      obtain ⟨v, hv⟩ : ∃ v, c[i]? = some v := ⟨_, List.getElem?_eq_getElem hlt⟩
      obtain ⟨b1, o1, x1, _, c1⟩ := ch64_ix hB7.out.2.1 i v hv
      obtain ⟨b2, o2, x2, _, c2⟩ := ch64_ix hB7.out.2.2 i v hv
      clear hv
      have hvv : (v != v) = false := by simp
      have hRd : Hid (∀ w', Below wr.heap.size wr w' → w'.cell? ⟨b1, o1, none⟩ = some (.int .i64 v) ∧ w'.cell? ⟨b2, o2, none⟩ = some (.int .i64 v)) := fun w' q => ⟨cell_later q c1, cell_later q c2⟩
      go_upto_region 17 with fail
      have hS : Hid (Below wr.heap.size wr wr.drew) := bey_drew wr
      refine wp_region_noPanic ?_
      refine wp_region_held_drew (S := fun w' => Below wr.heap.size wr w') (by kernel_rfl) hS.out (fun _ => ?_)
      refine reg_move (i := 0) rfl (by kernel_rfl) (by kernel_rfl) (by kernel_rfl) (fun _ _ _ _ h => h) rfl (.slice va c.length vc) (fun _ => rfl) hS.out ?_
      simp only [Act.put, List.getElem_toArray, List.getElem_cons_succ, List.getElem_cons_zero, List.setIfInBounds_toArray, List.set_cons_zero, List.set_cons_succ]
      refine reg_move (i := 1) rfl (by kernel_rfl) (by kernel_rfl) (by kernel_rfl) (fun _ _ _ _ h => h) rfl (.int .i64 (i : Int)) (fun _ => rfl) hS.out ?_
      simp only [Act.put, List.getElem_toArray, List.getElem_cons_succ, List.getElem_cons_zero, List.setIfInBounds_toArray, List.set_cons_zero, List.set_cons_succ]
      refine reg_move (i := 2) rfl (by kernel_rfl) (by kernel_rfl) (by kernel_rfl) (fun _ _ _ _ h => h) rfl (.pointer (some ⟨b1, o1, none⟩)) (fun wx => by unfold execOp; exact run_value_of (x1 wx)) hS.out ?_
      simp only [Act.put, List.getElem_toArray, List.getElem_cons_succ, List.getElem_cons_zero, List.setIfInBounds_toArray, List.set_cons_zero, List.set_cons_succ]
      refine reg_load1 (i := 3) rfl (by kernel_rfl) (by kernel_rfl) (by kernel_rfl) (fun _ _ _ _ h => h) rfl 2 _ rfl ⟨b1, o1, none⟩ rfl _ Try.underlying2 rfl (.int .i64 v) (fun w' q => (hRd.out w' q).1) hS.out ?_
      simp only [Act.put, List.getElem_toArray, List.getElem_cons_succ, List.getElem_cons_zero, List.setIfInBounds_toArray, List.set_cons_zero, List.set_cons_succ]
      refine reg_move (i := 4) rfl (by kernel_rfl) (by kernel_rfl) (by kernel_rfl) (fun _ _ _ _ h => h) rfl (.slice za c.length zc) (fun _ => rfl) hS.out ?_
      simp only [Act.put, List.getElem_toArray, List.getElem_cons_succ, List.getElem_cons_zero, List.setIfInBounds_toArray, List.set_cons_zero, List.set_cons_succ]
      refine reg_move (i := 5) rfl (by kernel_rfl) (by kernel_rfl) (by kernel_rfl) (fun _ _ _ _ h => h) rfl (.int .i64 (i : Int)) (fun _ => rfl) hS.out ?_
      simp only [Act.put, List.getElem_toArray, List.getElem_cons_succ, List.getElem_cons_zero, List.setIfInBounds_toArray, List.set_cons_zero, List.set_cons_succ]
      refine reg_move (i := 6) rfl (by kernel_rfl) (by kernel_rfl) (by kernel_rfl) (fun _ _ _ _ h => h) rfl (.pointer (some ⟨b2, o2, none⟩)) (fun wx => by unfold execOp; exact run_value_of (x2 wx)) hS.out ?_
      simp only [Act.put, List.getElem_toArray, List.getElem_cons_succ, List.getElem_cons_zero, List.setIfInBounds_toArray, List.set_cons_zero, List.set_cons_succ]
      refine reg_load1 (i := 7) rfl (by kernel_rfl) (by kernel_rfl) (by kernel_rfl) (fun _ _ _ _ h => h) rfl 2 _ rfl ⟨b2, o2, none⟩ rfl _ Try.underlying2 rfl (.int .i64 v) (fun w' q => (hRd.out w' q).2) hS.out ?_
      simp only [Act.put, List.getElem_toArray, List.getElem_cons_succ, List.getElem_cons_zero, List.setIfInBounds_toArray, List.set_cons_zero, List.set_cons_succ]
      refine reg_move (i := 8) rfl (by kernel_rfl) (by kernel_rfl) (by kernel_rfl) (fun _ _ _ _ h => h) rfl (.bool (v != v)) (fun _ => rfl) hS.out ?_
      simp only [Act.put, List.getElem_toArray, List.getElem_cons_succ, List.getElem_cons_zero, List.setIfInBounds_toArray, List.set_cons_zero, List.set_cons_succ]
      rw [hvv]
      refine wpAnyH_done (by kernel_rfl) (NoPanic.normal ?_) _
      have hS9 : Hid (Below w.heap.size w wr.drew ∧ Rows wr.drew 1 va vc (c.map chCells) ∧ Rows wr.drew 1 za zc (c.map chCells)) := ⟨bthen hB7.out.1 hS.out, hB7.out.2.1.later hS.out, hB7.out.2.2.later hS.out⟩
      generalize wr.drew = Z at *
      clear hRd c1 c2 x1 x2
      go_wp2
      go_roundw
      case rel => exact ⟨i + 1, by omega, by go_num, hS9.out⟩
      case measure => simp [intOf]; omega
    · have hie : i = c.length := by omega
      subst hie
      have hiI : ¬ (c.length : Int) < c.length := by omega
      cases f <;> cases t1 <;> cases t2 <;> (go_wp2; go_ret; exact ⟨rfl, hB7.out.1⟩)
end
theorem fits_row (k : Int) (h : List Cl) (ha : Option Addr) (hc : Nat) (o : List Int) (oa : Option Addr) (oc : Nat) (w : World) (_ : (Lit.int .i64 k).wf = true) (hin : ClsIn w ha hc h) (ho : IntsIn w oa oc o) : Calls Try.prog 4 #[.int .i64 k, .slice ha h.length hc, .slice oa o.length oc] w fun e w' => e = .returned (.bool true) ∧ Below w.heap.size w w' := by
  by_cases hR : RightH k h
  · cases hor : isOrdB h o with
    | false => exact fitsL_bad hin.1 hR ho.1 ho.2 hor
    | true =>
      obtain ⟨r, rfl, hr, hnd, hr8⟩ := ord_places hR.n hor
      have := fitsL_ok hin.1 hin.i hR ho.1 hor hr hr8 hnd
      rw [show (asI r).length = r.length from List.length_map ..]
      exact this
  · exact fitsL_no hin.1 hR _
end Go.Proofs.Ytklpifammbnldaa.pg
