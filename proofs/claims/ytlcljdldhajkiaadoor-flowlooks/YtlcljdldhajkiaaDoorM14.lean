/- What may come behind a place, and what may be come to from it: package flow's Next and Reach. -/
import Derived.Test.YtlcljdldhajkiaaDoorM13
import Derived.Test.YtlcljdldhajkiaaDoorM12
import Derived.Test.YtlcljdldhajkiaaDoorM10
import Derived.Test.YtlcljdldhajkiaaDoorM7
namespace Go.Proofs.YtlcljdldhajkiaaDoor.pg
open Go.ChangeShapes Go.WideShapes Go.ChangeAt Go.RowKit Go.Shelf
set_option linter.unusedVariables false
set_option linter.unusedSimpArgs false
set_option maxRecDepth 100000
theorem cf_fnF {P : Program} {f : FuncId} {fn : Func} (hf : P.funcs[f]? = some fn) (h1 : (fn.name == "runtime.NumGoroutine") = false) (h2 : fn.body.isSome = true) (args : Array Value) (w : World) : (callFunc f args).run P w = .ok (.enter f args) w := cf_fn hf h1 h2 args w
theorem run_valueF {P : Program} {m : Sem Value} {v : Value} {w w' : World} (h : m.run P w = .ok v w') : (m.bind fun x => pure (.value x) : Sem Next).run P w = .ok (.value v) w' := by
  show (m >>= fun x => pure (Next.value x)).run P w = _
  rw [Sem.run_bind, h]
  rfl
section
variable {P : Program} {ops : Array Oper} {Q : Exit → Act → World → Prop} {S : World → Prop} {fuel : Nat} {listed : Array Bool} {a : Act} {w : World}
theorem reg_call3F {i : Nat} {o : Oper} (hr : Region.ready .any ops listed = [i]) (ho : ops[i]? = some o) (hw : Region.wanted o (yielded ops a.tmps) = true) (f : FuncId) (x y z : Operand) (t u q : TypeId)
    (hc0 : o.op = .call { callee := .value (.func f), args := #[x, y, z], argTypes := #[t, u, q] }) (v v2 v3 : Value) (hx : a.eval x = v) (hy : a.eval y = v2) (hz : a.eval z = v3) (hcf : (callFunc f #[v, v2, v3]).run P w = .ok (.enter f #[v, v2, v3]) w) (R : Ending → World → Prop) (hc : Calls P f #[v, v2, v3] w R)
    (hK : ∀ e w', R e w' → ∃ v, e = .returned v ∧ S w' ∧ (S w' → wpAnyH P .any ops Q S fuel (listed.setIfInBounds i true) (a.put o.dst v) w')) :
    wpAnyH P .any ops Q S (fuel + 1) listed a w := reg_call hr ho hw f #[x, y, z] #[t, u, q] hc0 #[v, v2, v3] (by simp [hx, hy, hz]) hcf R hc hK
end
set_option maxHeartbeats 2000000 in
theorem fnext_ok (M : MPr) (f : Int) (pc : Nat) (w : World) (hM : M.lies w) (hF : prog.Forms w) (F : MFn) (hFi : M.fns[f.toNat]? = some F) (hfl : FlowF F.fn) (f0 : 0 ≤ f) (hpc : pc < F.code.length) (hfit : fitP M.pr f pc = 0) :
    Calls Tryd.prog 23 #[M.val, .int .i64 f, .int .i64 (pc : Int)] w fun e w' => ∃ va vc, e = .returned (.tuple #[.slice va (lst (bAll F.fn (onePl pc) F.code.length) 64).length vc, .int .i64 0]) ∧ Rows w' 1 va vc ((lst (bAll F.fn (onePl pc) F.code.length) 64).map chCells) ∧ Below w.heap.size w w' := by
  have hb := boxed w (objP M)
  have bP := boxP_new w M
  have hFm := List.mem_of_getElem? hFi
  have hcall := fcheckPlace_any M f (pc : Int) _ (hM.later hb) (hF.later hb) 0 hfit.symm
  have hMH : Hid (M.lies w) := hM
  have bPH : Hid (BoxP (w.alloc (objP M)) w.heap.size M) := bP
  have hbH : Hid (Below w.heap.size w (w.alloc (objP M))) := hb
  have hl64 : pc < 64 := by have := hfl.l64; have h : F.fn.code.length = F.code.length := rfl; omega
  clear hM hF hfit hb
  go_enter Tryd.func23, Tryd.ntmps23
  go_wp2_with (go_at_call 25; (with_reducible refine hcall.mono ?_); rintro e w2 ⟨rfl, hb2⟩; clear bP)
  have hbW : Below w.heap.size w w2 := bthen hbH.out hb2
  have hPc := bPH.out.later hb2
  obtain ⟨fb, fo, hfix, hfb, fc0, fc1, fc2, fc3⟩ := fn_ix (hMH.out.later hbW).2.2.1 f.toNat F hFi
  rw [show ((f.toNat : Nat) : Int) = f by omega] at hfix
  have hlF : Hid (F.lies w) := hMH.out.2.2.2.2.2.2 F hFm
  clear hb2 hcall
  have hH : Below w2.heap.size w2 w2.drew := bey_drew w2
  have hrF : ∀ w', Below w2.heap.size w2 w' → w'.rangeAt fb fo [.int .i64 F.params, .int .i64 F.regs, .slice F.ca F.code.length F.ccap, .slice F.sa F.sels.length F.scap] := fun w' h' j v hj => by
    match j, hj with
    | 0, hj => cases hj; exact cell_later h' fc0
    | 1, hj => cases hj; exact cell_later h' fc1
    | 2, hj => cases hj; exact cell_later h' fc2
    | 3, hj => cases hj; exact cell_later h' fc3
  refine wp_region_held_drew (S := fun w' => Below w2.heap.size w2 w') (by kernel_rfl) hH (fun _ => ?_)
  refine reg_move (i := 0) rfl (by kernel_rfl) (by kernel_rfl) (by kernel_rfl) (fun _ _ _ _ h => h) rfl (.pointer (some ⟨w.heap.size, 3, none⟩)) (fun _ => by kernel_rfl) hH ?_
  simp only [Act.put, List.getElem_toArray, List.getElem_cons_succ, List.getElem_cons_zero, List.setIfInBounds_toArray, List.set_cons_zero, List.set_cons_succ]
  refine reg_load1 (i := 1) rfl (by kernel_rfl) (by kernel_rfl) (by kernel_rfl) (fun _ _ _ _ h => h) rfl 24 _ rfl ⟨w.heap.size, 3, none⟩ rfl _ Tryd.underlying24 rfl (.slice M.fa M.fns.length M.fcap) (fun w' h' => cell_later h' hPc.2.2.2) hH ?_
  simp only [Act.put, List.getElem_toArray, List.getElem_cons_succ, List.getElem_cons_zero, List.setIfInBounds_toArray, List.set_cons_zero, List.set_cons_succ]
  refine reg_move (i := 2) rfl (by kernel_rfl) (by kernel_rfl) (by kernel_rfl) (fun _ _ _ _ h => h) rfl (.int .i64 f) (fun _ => by kernel_rfl) hH ?_
  simp only [Act.put, List.getElem_toArray, List.getElem_cons_succ, List.getElem_cons_zero, List.setIfInBounds_toArray, List.set_cons_zero, List.set_cons_succ]
  refine reg_move (i := 3) rfl (by kernel_rfl) (by kernel_rfl) (by kernel_rfl) (fun _ _ _ _ h => h) rfl (.pointer (some ⟨fb, fo, none⟩)) (fun wx => by unfold execOp; exact run_valueF (hfix wx)) hH ?_
  simp only [Act.put, List.getElem_toArray, List.getElem_cons_succ, List.getElem_cons_zero, List.setIfInBounds_toArray, List.set_cons_zero, List.set_cons_succ]
  refine reg_load (i := 4) rfl (by kernel_rfl) (by kernel_rfl) (by kernel_rfl) (fun _ _ _ _ h => h) rfl 62 _ rfl fb fo rfl [.int .i64 F.params, .int .i64 F.regs, .slice F.ca F.code.length F.ccap, .slice F.sa F.sels.length F.scap] _ hrF Tryd.underlying62 rfl (by kernel_rfl) hH ?_
  simp only [Act.put, List.getElem_toArray, List.getElem_cons_succ, List.getElem_cons_zero, List.setIfInBounds_toArray, List.set_cons_zero, List.set_cons_succ]
  refine reg_move (i := 5) rfl (by kernel_rfl) (by kernel_rfl) (by kernel_rfl) (fun _ _ _ _ h => h) rfl (.int .i64 (pc : Int)) (fun _ => by kernel_rfl) hH ?_
  simp only [Act.put, List.getElem_toArray, List.getElem_cons_succ, List.getElem_cons_zero, List.setIfInBounds_toArray, List.set_cons_zero, List.set_cons_succ]
  refine reg_call1 (i := 6) (by kernel_rfl) rfl rfl 46 _ _ rfl (.int .i64 (pc : Int)) rfl (cf_fn Tryd.func46 (by kernel_rfl) (by kernel_rfl) _ _) _ (just_any pc hl64 _) ?_
  rintro e3 w3 ⟨rfl, hb3⟩
  have hH3 : Below w2.heap.size w2 w3 := bthen hH hb3
  refine ⟨_, rfl, hH3, fun _ => ?_⟩
  simp only [Act.put, List.getElem_toArray, List.getElem_cons_succ, List.getElem_cons_zero, List.setIfInBounds_toArray, List.set_cons_zero, List.set_cons_succ]
  refine reg_call2 (i := 7) (by kernel_rfl) rfl rfl 45 _ _ _ _ rfl F.val (.agg (boolRow 64 (onePl pc))) rfl rfl (cf_fn Tryd.func45 (by kernel_rfl) (by kernel_rfl) _ _) _ (behindAll_any F (onePl pc) w3 (hlF.out.later (bthen hbW hH3)) hfl) ?_
  rintro e4 w4 ⟨rfl, hb4⟩
  have hH4 : Below w2.heap.size w2 w4 := bthen hH3 hb4
  refine ⟨_, rfl, hH4, fun _ => ?_⟩
  simp only [Act.put, List.getElem_toArray, List.getElem_cons_succ, List.getElem_cons_zero, List.setIfInBounds_toArray, List.set_cons_zero, List.set_cons_succ]
  refine reg_call1 (i := 8) (by kernel_rfl) rfl rfl 36 _ _ rfl (.agg (boolRow 64 (bAll F.fn (onePl pc) F.code.length))) rfl (cf_fn Tryd.func36 (by kernel_rfl) (by kernel_rfl) _ _) _ (list_any _ _) ?_
  rintro e5 w5 ⟨va, vc, rfl, hls⟩
  have hH5 : Below w2.heap.size w2 w5 := bthen hH4 hls.be
  refine ⟨_, rfl, hH5, fun _ => ?_⟩
  simp only [Act.put, List.getElem_toArray, List.getElem_cons_succ, List.getElem_cons_zero, List.setIfInBounds_toArray, List.set_cons_zero, List.set_cons_succ]
  refine reg_move (i := 9) rfl (by kernel_rfl) (by kernel_rfl) (by kernel_rfl) (fun _ _ _ _ h => h) rfl (.slice va (lst (bAll F.fn (onePl pc) F.code.length) 64).length vc) (fun _ => rfl) hH5 ?_
  simp only [Act.put, List.getElem_toArray, List.getElem_cons_succ, List.getElem_cons_zero, List.setIfInBounds_toArray, List.set_cons_zero, List.set_cons_succ]
  refine reg_move (i := 10) rfl (by kernel_rfl) (by kernel_rfl) (by kernel_rfl) (fun _ _ _ _ h => h) rfl (.int .i64 0) (fun _ => by kernel_rfl) hH5 ?_
  simp only [Act.put, List.getElem_toArray, List.getElem_cons_succ, List.getElem_cons_zero, List.setIfInBounds_toArray, List.set_cons_zero, List.set_cons_succ]
  refine wpAnyH_done (by kernel_rfl) ?_ _
  have hrw : Hid (Rows w5 1 va vc ((lst (bAll F.fn (onePl pc) F.code.length) 64).map chCells)) := hls.rows
  have hbE : Hid (Below w.heap.size w w5) := bthen hbW hH5
  clear hls hrF hfix hPc fc0 fc1 fc2 fc3
  generalize hLL : lst (bAll F.fn (onePl pc) F.code.length) 64 = LL at *
  go_wp2
  go_ret2
  exact ⟨va, vc, by rw [hLL]; rfl, by rw [hLL]; exact hrw.out, hbE.out⟩
set_option maxHeartbeats 1000000 in
theorem fnext_err (M : MPr) (f pc : Int) (w : World) (hM : M.lies w) (hF : prog.Forms w) (e : Int) (he : Hid (e = fitP M.pr f pc)) (hne : e ≠ 0) :
    Calls Tryd.prog 23 #[M.val, .int .i64 f, .int .i64 pc] w fun e' w' => e' = .returned (.tuple #[.slice none 0 0, .int .i64 e]) ∧ Below w.heap.size w w' := by
  have hb := boxed w (objP M)
  have bP := boxP_new w M
  have hcall := fcheckPlace_any M f pc _ (hM.later hb) (hF.later hb) e he
  have hbH : Hid (Below w.heap.size w (w.alloc (objP M))) := hb
  have d : (e != 0) = true := by simpa using hne
  clear hM hF he hb hne
  go_enter Tryd.func23, Tryd.ntmps23
  go_wp2_with (go_at_call 25; (with_reducible refine hcall.mono ?_); rintro e w2 ⟨rfl, hb2⟩)
  go_ret2
  exact ⟨rfl, bthen hbH.out hb2⟩
set_option maxHeartbeats 2000000 in
theorem freach_ok (M : MPr) (f : Int) (pc : Nat) (w : World) (hM : M.lies w) (hF : prog.Forms w) (F : MFn) (hFi : M.fns[f.toNat]? = some F) (hfl : FlowF F.fn) (f0 : 0 ≤ f) (hpc : pc < F.code.length) (hfit : fitP M.pr f pc = 0) :
    Calls Tryd.prog 29 #[M.val, .int .i64 f, .int .i64 (pc : Int)] w fun e w' => ∃ R va vc, e = .returned (.tuple #[.slice va (lst R 64).length vc, .int .i64 0]) ∧ Least F.fn alw (onePl pc) R ∧ Rows w' 1 va vc ((lst R 64).map chCells) ∧ Below w.heap.size w w' := by
  have hb := boxed w (objP M)
  have bP := boxP_new w M
  have hFm := List.mem_of_getElem? hFi
  have hcall := fcheckPlace_any M f (pc : Int) _ (hM.later hb) (hF.later hb) 0 hfit.symm
  have hMH : Hid (M.lies w) := hM
  have bPH : Hid (BoxP (w.alloc (objP M)) w.heap.size M) := bP
  have hbH : Hid (Below w.heap.size w (w.alloc (objP M))) := hb
  have hl64 : pc < 64 := by have := hfl.l64; have h : F.fn.code.length = F.code.length := rfl; omega
  clear hM hF hfit hb
  go_enter Tryd.func29, Tryd.ntmps29
  go_wp2_with (go_at_call 25; (with_reducible refine hcall.mono ?_); rintro e w2 ⟨rfl, hb2⟩; clear bP)
  have hbW : Below w.heap.size w w2 := bthen hbH.out hb2
  have hPc := bPH.out.later hb2
  obtain ⟨fb, fo, hfix, hfb, fc0, fc1, fc2, fc3⟩ := fn_ix (hMH.out.later hbW).2.2.1 f.toNat F hFi
  rw [show ((f.toNat : Nat) : Int) = f by omega] at hfix
  have hlF : Hid (F.lies w) := hMH.out.2.2.2.2.2.2 F hFm
  clear hb2 hcall
  have hH : Below w2.heap.size w2 w2.drew := bey_drew w2
  have hrF : ∀ w', Below w2.heap.size w2 w' → w'.rangeAt fb fo [.int .i64 F.params, .int .i64 F.regs, .slice F.ca F.code.length F.ccap, .slice F.sa F.sels.length F.scap] := fun w' h' j v hj => by
    match j, hj with
    | 0, hj => cases hj; exact cell_later h' fc0
    | 1, hj => cases hj; exact cell_later h' fc1
    | 2, hj => cases hj; exact cell_later h' fc2
    | 3, hj => cases hj; exact cell_later h' fc3
  refine wp_region_held_drew (S := fun w' => Below w2.heap.size w2 w') (by kernel_rfl) hH (fun _ => ?_)
  refine reg_move (i := 0) rfl (by kernel_rfl) (by kernel_rfl) (by kernel_rfl) (fun _ _ _ _ h => h) rfl (.pointer (some ⟨w.heap.size, 3, none⟩)) (fun _ => by kernel_rfl) hH ?_
  simp only [Act.put, List.getElem_toArray, List.getElem_cons_succ, List.getElem_cons_zero, List.setIfInBounds_toArray, List.set_cons_zero, List.set_cons_succ]
  refine reg_load1 (i := 1) rfl (by kernel_rfl) (by kernel_rfl) (by kernel_rfl) (fun _ _ _ _ h => h) rfl 24 _ rfl ⟨w.heap.size, 3, none⟩ rfl _ Tryd.underlying24 rfl (.slice M.fa M.fns.length M.fcap) (fun w' h' => cell_later h' hPc.2.2.2) hH ?_
  simp only [Act.put, List.getElem_toArray, List.getElem_cons_succ, List.getElem_cons_zero, List.setIfInBounds_toArray, List.set_cons_zero, List.set_cons_succ]
  refine reg_move (i := 2) rfl (by kernel_rfl) (by kernel_rfl) (by kernel_rfl) (fun _ _ _ _ h => h) rfl (.int .i64 f) (fun _ => by kernel_rfl) hH ?_
  simp only [Act.put, List.getElem_toArray, List.getElem_cons_succ, List.getElem_cons_zero, List.setIfInBounds_toArray, List.set_cons_zero, List.set_cons_succ]
  refine reg_move (i := 3) rfl (by kernel_rfl) (by kernel_rfl) (by kernel_rfl) (fun _ _ _ _ h => h) rfl (.pointer (some ⟨fb, fo, none⟩)) (fun wx => by unfold execOp; exact run_valueF (hfix wx)) hH ?_
  simp only [Act.put, List.getElem_toArray, List.getElem_cons_succ, List.getElem_cons_zero, List.setIfInBounds_toArray, List.set_cons_zero, List.set_cons_succ]
  refine reg_load (i := 4) rfl (by kernel_rfl) (by kernel_rfl) (by kernel_rfl) (fun _ _ _ _ h => h) rfl 62 _ rfl fb fo rfl [.int .i64 F.params, .int .i64 F.regs, .slice F.ca F.code.length F.ccap, .slice F.sa F.sels.length F.scap] _ hrF Tryd.underlying62 rfl (by kernel_rfl) hH ?_
  simp only [Act.put, List.getElem_toArray, List.getElem_cons_succ, List.getElem_cons_zero, List.setIfInBounds_toArray, List.set_cons_zero, List.set_cons_succ]
  refine reg_move (i := 5) rfl (by kernel_rfl) (by kernel_rfl) (by kernel_rfl) (fun _ _ _ _ h => h) rfl (.int .i64 (pc : Int)) (fun _ => by kernel_rfl) hH ?_
  simp only [Act.put, List.getElem_toArray, List.getElem_cons_succ, List.getElem_cons_zero, List.setIfInBounds_toArray, List.set_cons_zero, List.set_cons_succ]
  refine reg_call1 (i := 6) (by kernel_rfl) rfl rfl 46 _ _ rfl (.int .i64 (pc : Int)) rfl (cf_fn Tryd.func46 (by kernel_rfl) (by kernel_rfl) _ _) _ (just_any pc hl64 _) ?_
  rintro e3 w3 ⟨rfl, hb3⟩
  have hH3 : Below w2.heap.size w2 w3 := bthen hH hb3
  refine ⟨_, rfl, hH3, fun _ => ?_⟩
  simp only [Act.put, List.getElem_toArray, List.getElem_cons_succ, List.getElem_cons_zero, List.setIfInBounds_toArray, List.set_cons_zero, List.set_cons_succ]
  refine reg_call3F (i := 7) (by kernel_rfl) rfl rfl 49 _ _ _ _ _ _ rfl F.val (.agg (boolRow 64 (onePl pc))) (.func (.func 50) #[] #[]) rfl rfl rfl (cf_fn Tryd.func49 (by kernel_rfl) (by kernel_rfl) _ _) _ (grown_any F (onePl pc) w3 (hlF.out.later (bthen hbW hH3)) hfl) ?_
  rintro e4 w4 ⟨R, rfl, hR, hb4⟩
  have hH4 : Below w2.heap.size w2 w4 := bthen hH3 hb4
  refine ⟨_, rfl, hH4, fun _ => ?_⟩
  simp only [Act.put, List.getElem_toArray, List.getElem_cons_succ, List.getElem_cons_zero, List.setIfInBounds_toArray, List.set_cons_zero, List.set_cons_succ]
  refine reg_call1 (i := 8) (by kernel_rfl) rfl rfl 36 _ _ rfl (.agg (boolRow 64 R)) rfl (cf_fn Tryd.func36 (by kernel_rfl) (by kernel_rfl) _ _) _ (list_any _ _) ?_
  rintro e5 w5 ⟨va, vc, rfl, hls⟩
  have hH5 : Below w2.heap.size w2 w5 := bthen hH4 hls.be
  refine ⟨_, rfl, hH5, fun _ => ?_⟩
  simp only [Act.put, List.getElem_toArray, List.getElem_cons_succ, List.getElem_cons_zero, List.setIfInBounds_toArray, List.set_cons_zero, List.set_cons_succ]
  refine reg_move (i := 9) rfl (by kernel_rfl) (by kernel_rfl) (by kernel_rfl) (fun _ _ _ _ h => h) rfl (.slice va (lst R 64).length vc) (fun _ => rfl) hH5 ?_
  simp only [Act.put, List.getElem_toArray, List.getElem_cons_succ, List.getElem_cons_zero, List.setIfInBounds_toArray, List.set_cons_zero, List.set_cons_succ]
  refine reg_move (i := 10) rfl (by kernel_rfl) (by kernel_rfl) (by kernel_rfl) (fun _ _ _ _ h => h) rfl (.int .i64 0) (fun _ => by kernel_rfl) hH5 ?_
  simp only [Act.put, List.getElem_toArray, List.getElem_cons_succ, List.getElem_cons_zero, List.setIfInBounds_toArray, List.set_cons_zero, List.set_cons_succ]
  refine wpAnyH_done (by kernel_rfl) ?_ _
  have hrw : Hid (Rows w5 1 va vc ((lst R 64).map chCells)) := hls.rows
  have hbE : Hid (Below w.heap.size w w5) := bthen hbW hH5
  clear hls hrF hfix hPc fc0 fc1 fc2 fc3
  generalize hLL : lst R 64 = LL at *
  go_wp2
  go_ret2
  exact ⟨R, va, vc, by rw [hLL]; rfl, hR, by rw [hLL]; exact hrw.out, hbE.out⟩
set_option maxHeartbeats 1000000 in
theorem freach_err (M : MPr) (f pc : Int) (w : World) (hM : M.lies w) (hF : prog.Forms w) (e : Int) (he : Hid (e = fitP M.pr f pc)) (hne : e ≠ 0) :
    Calls Tryd.prog 29 #[M.val, .int .i64 f, .int .i64 pc] w fun e' w' => e' = .returned (.tuple #[.slice none 0 0, .int .i64 e]) ∧ Below w.heap.size w w' := by
  have hb := boxed w (objP M)
  have bP := boxP_new w M
  have hcall := fcheckPlace_any M f pc _ (hM.later hb) (hF.later hb) e he
  have hbH : Hid (Below w.heap.size w (w.alloc (objP M))) := hb
  have d : (e != 0) = true := by simpa using hne
  clear hM hF he hb hne
  go_enter Tryd.func29, Tryd.ntmps29
  go_wp2_with (go_at_call 25; (with_reducible refine hcall.mono ?_); rintro e w2 ⟨rfl, hb2⟩)
  go_ret2
  exact ⟨rfl, bthen hbH.out hb2⟩
end Go.Proofs.YtlcljdldhajkiaaDoor.pg
/- What may be come to from a place, and in what is spawned on the way. -/
namespace Go.Proofs.YtlcljdldhajkiaaDoor.pg
open Go.ChangeShapes Go.WideShapes Go.ChangeAt Go.RowKit Go.Shelf
set_option linter.unusedVariables false
set_option linter.unusedSimpArgs false
set_option maxRecDepth 100000
attribute [local go_sem ↓] Go.wp_at_zero Go.wp_at_succ
theorem results_sp {fn : Func} {p : Tmp} (h : fn.results = #[.cell p 66]) (tmps : Array Value) (w : World) (B : Nat) (x : Nat → Nat → Bool) (hp : tmps.getD p undef = .pointer (some ⟨B, 0, none⟩)) (hB : w.heap[B]? = some (objQ x)) :
    (results fn tmps).run Tryd.prog w = .ok (.agg (rowS x)) w := by
  have hp' : tmps[p]?.getD undef = .pointer (some ⟨B, 0, none⟩) := by simpa using hp
  simp [results, h, hp', asAddr, run_loadVar_row w B _ 66 _ _ _ hB Tryd.underlying66 rfl (infoSp x)]
structure SpO (w W : World) (M : MPr) (s t : Nat → Nat → Bool) (BB : Nat) : Prop where
  a : SpA w W M t
  q : W.heap[BB]? = some (objQ s)
  lt : w.heap.size + 1 + 1 < BB
theorem SpO.later {w W W' : World} {M : MPr} {s t : Nat → Nat → Bool} {BB : Nat} (h : SpO w W M s t BB) (hb : Below W.heap.size W W') : SpO w W' M s t BB := ⟨h.a.later hb, blk_onQ h.q hb, h.lt⟩
structure SpG (w W : World) (M : MPr) (s t : Nat → Nat → Bool) (BB : Nat) (F : MFn) (FB : Nat) : Prop where
  o : SpO w W M s t BB
  h : W.heap[FB]? = some (objFn F)
  l : BB < FB
theorem SpG.later {w W W' : World} {M : MPr} {s t : Nat → Nat → Bool} {BB FB : Nat} {F : MFn} (h : SpG w W M s t BB F FB) (hb : Below W.heap.size W W') : SpG w W' M s t BB F FB := ⟨h.o.later hb, blk_onQ h.h hb, h.l⟩
theorem SpG.row {w W : World} {M : MPr} {s t : Nat → Nat → Bool} {BB FB : Nat} {F : MFn} (h : SpG w W M s t BB F FB) {f : Nat} (hf : f < 8) (q : Nat → Bool) : SpG w (W.setCells (w.heap.size + 1 + 1) (f * 64) (boolRow 64 q).toList) M s (upF t f q) BB F FB :=
  ⟨⟨h.o.a.row hf q, (sets_other (by have := h.o.lt; omega) _ _ _).trans h.o.q, h.o.lt⟩, (sets_other (by have := h.o.lt; have := h.l; omega) _ _ _).trans h.h, h.l⟩
theorem SpG.put {w W : World} {M : MPr} {s t : Nat → Nat → Bool} {BB FB : Nat} {F : MFn} (h : SpG w W M s t BB F FB) {f k : Nat} (hf : f < 8) (hk : k < 64) : SpG w (W.setCell ⟨w.heap.size + 1 + 1, f * 64 + k, none⟩ (.bool true)) M s (upP t f k) BB F FB :=
  ⟨⟨h.o.a.put hf hk, (heap_setCell_other W ⟨w.heap.size + 1 + 1, f * 64 + k, none⟩ BB _ (by show BB ≠ w.heap.size + 1 + 1; have := h.o.lt; omega)).trans h.o.q, h.o.lt⟩, (heap_setCell_other W ⟨w.heap.size + 1 + 1, f * 64 + k, none⟩ FB _ (by show FB ≠ w.heap.size + 1 + 1; have := h.o.lt; have := h.l; omega)).trans h.h, h.l⟩
structure SomeL (F : MFn) (w : World) : Prop where
  lies : F.lies w
theorem SomeL.later {F : MFn} {w W : World} (h : SomeL F w) (hb : Below w.heap.size w W) : SomeL F W := ⟨h.lies.later hb⟩
set_option maxHeartbeats 8000000 in
theorem spread_any (M : MPr) (f p : Nat) (w : World) (hM0 : M.lies w) (h8 : M.fns.length ≤ 8) (hok1 : ∀ F ∈ M.fns, FlowF F.fn ∧ ∀ i ∈ F.code, i.op = 62 → 0 ≤ i.b ∧ i.b < 8) (hf : f < 8) (hp : p < 64) :
    Calls Tryd.prog 28 #[M.val, .int .i64 (f : Int), .int .i64 (p : Int)] w fun e w' => ∃ R, e = .returned (.agg (rowS R)) ∧ LeastP M.pr.fns f p R ∧ Below w.heap.size w w' := by
  have huS : Hid (Tryd.prog.underlying 66 = _) := Tryd.underlying66
  have huF : Hid (Tryd.prog.underlying 62 = _) := Tryd.underlying62
  have huI : Hid (Tryd.prog.underlying 70 = _) := Tryd.underlying70
  have hzS : Hid (∀ w, (zeroValue 66).run Tryd.prog w = .ok (.agg (rowS emS)) w) := zeroSp
  have hMH : Hid (M.lies w) := hM0
  have hok0 : Hid (∀ F ∈ M.fns, FlowF F.fn ∧ ∀ i ∈ F.code, i.op = 62 → 0 ≤ i.b ∧ i.b < 8) := hok1
  have hl8 : Hid (M.pr.fns.length ≤ 8) := by (show (M.fns.map MFn.fn).length ≤ 8; rw [List.length_map]; exact h8)
  obtain ⟨p1, p2, p3⟩ := three_new w (objP M) (objQ emS) (objQ emS)
  have hb0 := boxed3 w (objP M) (objQ emS) (objQ emS)
  have hBP : BoxP (((w.alloc (objP M)).alloc (objQ emS)).alloc (objQ emS)) w.heap.size M := (boxP_new w M).later (boxed2 _ _ _)
  have xS := ixS (w.heap.size + 1 + 1) f hf
  have xP := ixP (w.heap.size + 1 + 1) (f * 64) p hp
  have cO := cell_lcQ p3 (rowS_at (R := emS) hf hp)
  have fO := frozen_of_row _ _ (f * 64 + p) _ _ p3
  have nx : Hid (∀ W', W' = (((w.alloc (objP M)).alloc (objQ emS)).alloc (objQ emS)).setCell ⟨w.heap.size + 1 + 1, f * 64 + p, none⟩ (.bool true) → SpA w W' M (oneS f p)) := fun W' e => by
    rw [e, ← upP_one]
    exact SpA.put ⟨hb0, hBP, p2, p3⟩ hf hp
  clear p1 p2 p3 hb0 hBP hM0 hok1
  go_enter Tryd.func28, Tryd.ntmps28
  go_wp2_with (first
    | ((with_reducible refine at_allocQ 66 rfl ?_); refine stopQ_out ?_; refine wpList_alloc_big rfl 66 rfl hzS.out ?_)
    | ((with_reducible refine at_storeQ 4 _ _ rfl ?_); refine stopQ_out ?_; refine wpList_putb rfl 4 _ _ rfl ⟨w.heap.size + 1 + 1, f * 64 + p, none⟩ rfl true rfl (by kernel_rfl) _ cO fO ?_; intro W1 hW1; (have hn : Hid (SpA w W1 M (oneS f p)) := nx.out W1 hW1); clear hW1 cO fO nx))
  try simp only [Act.put, List.getElem_toArray, List.getElem_cons_succ, List.getElem_cons_zero, List.setIfInBounds_toArray, List.set_cons_zero, List.set_cons_succ, World.size_alloc]
  clear xS xP
  obtain ⟨S, hSS⟩ : ∃ S, w.heap.size + 1 + 1 = S := ⟨_, rfl⟩
  rw [hSS]
  go_loopw [8] (fun _ wr => Hid (∃ s, SpA w wr M s ∧ SpI M.pr.fns f p s s 0)) (fun _ wr => missQ S wr)
  case atStart => exact ⟨_, hn.out, SpI.first _ _ _⟩
  case round =>
    obtain ⟨s, hs0⟩ := hrel.out
    have hs : Hid (SpA w wr M s ∧ SpI M.pr.fns f p s s 0) := hs0
    clear hn hs0 hrel
    have hS1 : wr.heap[S]? = some (objQ s) := by (have := hs.out.1.s; rw [hSS] at this; exact this)
    have hms : Hid (missQ S wr = miss (fun j => s (j / 64) (j % 64)) 512) := missQ_is hS1
    have hY : Hid (SpO w (wr.alloc (objQ s)) M s s wr.heap.size) := ⟨hs.out.1.later (boxed _ _), heap_alloc_new _ _, hs.out.1.lt⟩
    have c3 := hY.out.a.p.2.2.2
    have hI0 : Hid (SpI M.pr.fns f p s s 0) := hs.out.2
    clear hs
    go_wp2_with (first
      | ((with_reducible refine at_loadQ 66 _ rfl ?_); refine stopQ_out ?_; refine wpList_load_row rfl 66 _ rfl S rfl _ _ _ _ hS1 huS.out rfl (infoSp _) ?_)
      | ((with_reducible refine at_allocQ 66 rfl ?_); refine stopQ_out ?_; refine wpList_alloc_big rfl 66 rfl hzS.out ?_)
      | ((with_reducible refine at_storeQ 66 _ _ rfl ?_); refine stopQ_out ?_; refine wpList_store_new rfl 66 _ _ rfl rfl _ (rowS s) rfl (infoSp _) (by rw [rowS_size, rowS_size]) (rowS_one _) ?_))
    clear hS1 c3
    generalize wr.alloc (objQ s) = Y at *
    generalize wr.heap.size = BB at *
    go_loopw [21] (fun u wr => ∃ g : Nat, g ≤ M.fns.length ∧ u = .int .i64 (g : Int) ∧ Hid (∃ t, SpO w wr M s t BB ∧ SpI M.pr.fns f p s t g)) (fun u _ => M.fns.length - (intOf u).toNat)
    case atStart => exact ⟨0, Nat.zero_le _, rfl, s, hY.out, hI0.out⟩
    case round =>
      obtain ⟨g, hg, rfl, hO0⟩ := hrel
      obtain ⟨t, hO0, hI0'⟩ := hO0.out
      have hO : Hid (SpO w wr M s t BB) := hO0
      have hI : Hid (SpI M.pr.fns f p s t g) := hI0'
      clear hY hI0 hO0 hI0'
      by_cases hlt : g < M.fns.length
      · have hgI : (g : Int) < M.fns.length := by omega
        have hg8 : g < 8 := by omega
        obtain ⟨F, hFi⟩ : ∃ F, M.fns[g]? = some F := ⟨_, List.getElem?_eq_getElem hlt⟩
        have hFm := List.mem_of_getElem? hFi
        have hFn : M.pr.fns[g]? = some F.fn := by (show (M.fns.map MFn.fn)[g]? = _; rw [List.getElem?_map, hFi]; rfl)
        have hl64 : (F.code.length : Int) ≤ 64 := by (have := (hok0.out F hFm).1.l64; have h : F.fn.code.length = F.code.length := rfl; omega)
        have hok : ∀ (g' : Nat) (F' : MFn), M.fns[g']? = some F' → FlowF F'.fn := fun g' F' h => (hok0.out F' (List.mem_of_getElem? h)).1
        have hsp0 : Hid (∀ i ∈ F.code, i.op = 62 → 0 ≤ i.b ∧ i.b < 8) := (hok0.out F hFm).2
        have hM : SomeL F w := ⟨hMH.out.2.2.2.2.2.2 F hFm⟩
        obtain ⟨fb, fo, fx, fl, f0, f1, f2, f3⟩ := fn_ix (hMH.out.later hO.out.a.b).2.2.1 g F hFi
        have hrg : Hid (wr.rangeAt fb fo [.int .i64 F.params, .int .i64 F.regs, .slice F.ca F.code.length F.ccap, .slice F.sa F.sels.length F.scap]) := fun j v hj => by
          match j, hj with
          | 0, hj => cases hj; exact f0
          | 1, hj => cases hj; exact f1
          | 2, hj => cases hj; exact f2
          | 3, hj => cases hj; exact f3
        have hG : Hid (SpG w (wr.alloc (objFn F)) M s t BB F wr.heap.size) := ⟨hO.out.later (boxed _ _), heap_alloc_new _ _, (Array.getElem?_eq_some_iff.mp hO.out.q).1⟩
        clear hO f0 f1 f2 f3 fl
        go_upto_region 7 with (first
          | ((with_reducible refine at_loadQ 62 _ rfl ?_); refine stopQ_out ?_; refine wpList_load_mid rfl 62 _ rfl fb fo rfl [.int .i64 F.params, .int .i64 F.regs, .slice F.ca F.code.length F.ccap, .slice F.sa F.sels.length F.scap] _ hrg.out huF.out rfl (by kernel_rfl) ?_)
          | ((with_reducible refine at_storeQ 62 _ _ rfl ?_); refine stopQ_out ?_; refine wpList_store_new rfl 62 _ _ rfl rfl _ #[.int .i64 F.params, .int .i64 F.regs, .slice F.ca F.code.length F.ccap, .slice F.sa F.sels.length F.scap] rfl (by kernel_rfl) rfl (by simp [Value.oneCell']) ?_))
        change Code.wp _ _ _ _ (wr.alloc (objFn F))
        try simp only [Act.put, List.getElem_toArray, List.getElem_cons_succ, List.getElem_cons_zero, List.setIfInBounds_toArray, List.set_cons_zero, List.set_cons_succ]
        clear hrg fx
        generalize wr.alloc (objFn F) = Y1 at *
        generalize wr.heap.size = FB at *
        have xS := ixS S g hg8
        have hFZ : Y1.heap[FB]? = some (objFn F) := hG.out.h
        have hgr := grown_any F (t g) Y1.drew (hM.later (hG.out.o.a.later (bey_drew Y1)).b).lies (hok g F hFi)
        have hH : Y1.drew.heap[FB]? = some (objFn F) := blk_onQ hFZ (bey_drew Y1)
        have hSr : Y1.drew.rangeAt S (g * 64) (boolRow 64 (t g)).toList := sp_rng (by (rw [← hSS]; exact (hG.out.o.a.later (bey_drew Y1)).s)) hg8
        refine wp_region_held_drew (S := fun w' => w'.heap[FB]? = some (objFn F)) (by kernel_rfl) hH (fun _ => ?_)
        refine reg_move (i := 0) rfl (by kernel_rfl) (by kernel_rfl) (by kernel_rfl) (fun _ _ _ _ h => h) rfl (.int .i64 (g : Int)) (fun _ => by kernel_rfl) hH ?_
        simp only [Act.put, List.getElem_toArray, List.getElem_cons_succ, List.getElem_cons_zero, List.setIfInBounds_toArray, List.set_cons_zero, List.set_cons_succ]
        refine reg_load (i := 1) rfl (by kernel_rfl) (by kernel_rfl) (by kernel_rfl) (fun _ _ _ _ h => h) rfl 62 _ rfl FB 0 rfl [.int .i64 F.params, .int .i64 F.regs, .slice F.ca F.code.length F.ccap, .slice F.sa F.sels.length F.scap] _ (fun w' h' => rng_blkQ h') Tryd.underlying62 rfl (by kernel_rfl) hH ?_
        simp only [Act.put, List.getElem_toArray, List.getElem_cons_succ, List.getElem_cons_zero, List.setIfInBounds_toArray, List.set_cons_zero, List.set_cons_succ]
        refine reg_move (i := 2) rfl (by kernel_rfl) (by kernel_rfl) (by kernel_rfl) (fun _ _ _ _ h => h) rfl (.int .i64 (g : Int)) (fun _ => by kernel_rfl) hH ?_
        simp only [Act.put, List.getElem_toArray, List.getElem_cons_succ, List.getElem_cons_zero, List.setIfInBounds_toArray, List.set_cons_zero, List.set_cons_succ]
        refine reg_move (i := 3) rfl (by kernel_rfl) (by kernel_rfl) (by kernel_rfl) (fun _ _ _ _ h => h) rfl (.pointer (some ⟨S, g * 64, none⟩)) (fun wx => by unfold execOp; exact run_valueF (xS wx)) hH ?_
        simp only [Act.put, List.getElem_toArray, List.getElem_cons_succ, List.getElem_cons_zero, List.setIfInBounds_toArray, List.set_cons_zero, List.set_cons_succ]
        refine reg_one (i := 4) (by kernel_rfl) rfl rfl (wpList_load_mid rfl 65 _ rfl S (g * 64) rfl (boolRow 64 (t g)).toList _ hSr Tryd.underlying65 rfl info64 (wpList_nil (And.intro hH fun _ => ?_)))
        simp only [Array.toArray_toList, Act.put, List.getElem_toArray, List.getElem_cons_succ, List.getElem_cons_zero, List.setIfInBounds_toArray, List.set_cons_zero, List.set_cons_succ]
        refine reg_call3F (i := 5) (by kernel_rfl) rfl rfl 49 _ _ _ _ _ _ rfl F.val (.agg (boolRow 64 (t g))) (.func (.func 50) #[] #[]) rfl rfl rfl (cf_fnF Tryd.func49 (by kernel_rfl) (by kernel_rfl) _ _) _ hgr ?_
        rintro e3 w3 ⟨R, rfl, hR, hb3⟩
        have hG3 : Hid (SpG w w3 M s t BB F FB) := (hG.out.later (bey_drew Y1)).later hb3
        have hRH : Hid (Least F.fn alw (t g) R) := hR
        have hH3 : w3.heap[FB]? = some (objFn F) := hG3.out.h
        have hS3 : Hid (w3.heap[S]? = some (objQ t)) := by (have := hG3.out.o.a.s; rw [hSS] at this; exact this)
        refine ⟨_, rfl, hH3, fun _ => ?_⟩
        simp only [Act.put, List.getElem_toArray, List.getElem_cons_succ, List.getElem_cons_zero, List.setIfInBounds_toArray, List.set_cons_zero, List.set_cons_succ]
        refine reg_move (i := 6) rfl (by kernel_rfl) (by kernel_rfl) (by kernel_rfl) (fun _ _ _ _ h => h) rfl (.pointer (some ⟨S, g * 64, none⟩)) (fun wx => by unfold execOp; exact run_valueF (xS wx)) hH3 ?_
        simp only [Act.put, List.getElem_toArray, List.getElem_cons_succ, List.getElem_cons_zero, List.setIfInBounds_toArray, List.set_cons_zero, List.set_cons_succ]
        refine reg_one (i := 7) (by kernel_rfl) rfl rfl (wpList_store_mid rfl 65 _ _ rfl S (g * 64) (boolRow 64 R) rfl rfl (sp_there hS3.out hg8 R) (by rw [boolRow_size]; kernel_rfl) (boolRow_one _ _) (wpList_nil (And.intro ((sets_other (by have h1 := hG3.out.l; have h2 := hG3.out.o.lt; omega) _ _ _).trans hH3) fun _ => ?_)))
        simp only [Act.put, List.getElem_toArray, List.getElem_cons_succ, List.getElem_cons_zero, List.setIfInBounds_toArray, List.set_cons_zero, List.set_cons_succ]
        refine wpAnyH_done (by kernel_rfl) ?_ _
        have hG4 : Hid (SpG w (w3.setCells S (g * 64) (boolRow 64 R).toList) M s (upF t g R) BB F FB ∧ SpJ M.pr.fns f p s (upF t g R) g F.fn 0) := by (rw [← hSS]; exact ⟨hG3.out.row hg8 R, hI.out.grow hFn hRH.out⟩)
        clear hgr hSr hH hH3 hS3 hRH hG3 hG hI hFZ xS hb3 hR
        generalize w3.setCells S (g * 64) (boolRow 64 R).toList = Z at *
        generalize upF t g R = t1 at *
        have k2 : Z.cell? ⟨FB, 2, none⟩ = some (.slice F.ca F.code.length F.ccap) := cell_lcQ hG4.out.1.h rfl
        go_wp2_with fail
        clear k2
        go_loopw [36] (fun u wr => ∃ c : Nat, c ≤ F.code.length ∧ u = .int .i64 (c : Int) ∧ Hid (∃ t', SpG w wr M s t' BB F FB ∧ SpJ M.pr.fns f p s t' g F.fn c)) (fun u _ => F.code.length - (intOf u).toNat)
        case atStart => exact ⟨0, Nat.zero_le _, rfl, t1, hG4.out⟩
        case round =>
          obtain ⟨c, hc, rfl, hJ0⟩ := hrel
          obtain ⟨t, hJ0⟩ := hJ0.out
          have hJ : Hid (SpG w wr M s t BB F FB ∧ SpJ M.pr.fns f p s t g F.fn c) := hJ0
          clear hG4 hJ0
          by_cases hlt : c < F.code.length
          · have hcI : (c : Int) < F.code.length := by omega
            have hc64 : c < 64 := by omega
            obtain ⟨m1, m2⟩ := insAt_mem (code := F.code) (pc := (c : Int)) (by omega) (by omega)
            rw [Int.toNat_natCast] at m1
            obtain ⟨b1, o1, x1, l1, q0, q1, q2, q3, q4⟩ := ins_ix (hM.later hJ.out.1.o.a.b).lies.1 c _ m1
            have hin : Hid (∃ i, insAt F.fn.code c = i) := ⟨_, rfl⟩
            obtain ⟨i, hin⟩ := hin.out
            have hin : Hid (insAt F.fn.code c = i) := hin
            rw [show insAt F.code (c : Int) = i from hin.out] at m1 m2 q0 q1 q2 q3 q4
            have hsp : Hid (i.op = 62 → 0 ≤ i.b ∧ i.b < 8) := hsp0.out i m2
            obtain ⟨op, ia, ib, ic, iN⟩ := i
            have hrg : Hid (wr.rangeAt b1 o1 [.int .i64 op, .int .i64 ia, .int .i64 ib, .int .i64 ic, .int .i64 iN]) := fun j v hj => by
              match j, hj with
              | 0, hj => cases hj; exact q0
              | 1, hj => cases hj; exact q1
              | 2, hj => cases hj; exact q2
              | 3, hj => cases hj; exact q3
              | 4, hj => cases hj; exact q4
            have hZ : Hid ((SpG w (wr.alloc (.cells #[.int .i64 op, .int .i64 ia, .int .i64 ib, .int .i64 ic, .int .i64 iN] 70)) M s t BB F FB ∧ SpJ M.pr.fns f p s t g F.fn c) ∧ (wr.alloc (.cells #[.int .i64 op, .int .i64 ia, .int .i64 ib, .int .i64 ic, .int .i64 iN] 70)).heap[wr.heap.size]? = some (.cells #[.int .i64 op, .int .i64 ia, .int .i64 ib, .int .i64 ic, .int .i64 iN] 70)) := ⟨⟨hJ.out.1.later (boxed _ _), hJ.out.2⟩, heap_alloc_new _ _⟩
            clear hJ q0 q1 q2 q3 q4 l1 m1 m2
            go_upto_region 11 with (first
              | ((with_reducible refine at_loadQ 70 _ rfl ?_); refine stopQ_out ?_; refine wpList_load_mid rfl 70 _ rfl b1 o1 rfl [.int .i64 op, .int .i64 ia, .int .i64 ib, .int .i64 ic, .int .i64 iN] _ hrg.out huI.out rfl (by kernel_rfl) ?_)
              | ((with_reducible refine at_storeQ 70 _ _ rfl ?_); refine stopQ_out ?_; refine wpList_store_new rfl 70 _ _ rfl rfl _ #[.int .i64 op, .int .i64 ia, .int .i64 ib, .int .i64 ic, .int .i64 iN] rfl (by kernel_rfl) rfl (by simp [Value.oneCell']) ?_))
            change Code.wp _ _ _ _ (wr.alloc (.cells #[.int .i64 op, .int .i64 ia, .int .i64 ib, .int .i64 ic, .int .i64 iN] 70))
            try simp only [Act.put, List.getElem_toArray, List.getElem_cons_succ, List.getElem_cons_zero, List.setIfInBounds_toArray, List.set_cons_zero, List.set_cons_succ]
            clear hrg x1
            generalize wr.alloc (.cells #[.int .i64 op, .int .i64 ia, .int .i64 ib, .int .i64 ic, .int .i64 iN] 70) = Z1 at *
            generalize wr.heap.size = IB at *
            generalize t = t1 at *
            have xG := ixS S g hg8
            have xC := ixP S (g * 64) c hc64
            have hS1 : Z1.heap[S]? = some (objQ t1) := by (have := hZ.out.1.1.o.a.s; rw [hSS] at this; exact this)
            have cT : Z1.cell? ⟨S, g * 64 + c, none⟩ = some (.bool (t1 g c)) := cell_lcQ hS1 (rowS_at hg8 hc64)
            have k0 : Z1.cell? ⟨IB, 0, none⟩ = some (.int .i64 op) := cell_lcQ hZ.out.2 rfl
            clear hS1
            obtain ⟨b, hb⟩ : ∃ b, t1 g c = b := ⟨_, rfl⟩
            rw [hb] at cT
            cases b with
            | false =>
              have hn : Hid (SpG w Z1 M s t1 BB F FB ∧ SpJ M.pr.fns f p s t1 g F.fn (c + 1)) := ⟨hZ.out.1.1, hZ.out.1.2.skip fun q => by rw [hb] at q; cases q.1⟩
              clear hZ hsp
              go_wp2
              go_roundw
              case rel => exact ⟨c + 1, by omega, by go_num, _, hn.out⟩
              case measure => simp [intOf]; omega
          
            | true =>
              by_cases h62 : op = 62
              · have hi62 : (⟨op, ia, ib, ic, iN⟩ : Ins).op = 62 := h62
                subst h62
                obtain ⟨bn, rfl⟩ : ∃ k : Nat, ib = (k : Int) := ⟨ib.toNat, by have := hsp.out hi62; simp only at this; omega⟩
                have hbn8 : bn < 8 := by (have := (hsp.out hi62).2; simp only at this; omega)
                have xB := ixS S bn hbn8
                have x0 : ∀ wx, (Instr.indexAt 65 (.pointer (some ⟨S, bn * 64, none⟩)) (.int .i64 0)).run Tryd.prog wx = .ok (.pointer (some ⟨S, bn * 64, none⟩)) wx := (by (have h0 := ixP S (bn * 64) 0 (by omega)); (rw [Nat.add_zero] at h0); exact h0)
                have r0 := rowS_at (R := t1) (f := bn) (k := 0) hbn8 (by omega)
                rw [Nat.add_zero] at r0
                have k2 : Z1.cell? ⟨IB, 2, none⟩ = some (.int .i64 (bn : Int)) := cell_lcQ hZ.out.2 rfl
                have hS1 : Z1.heap[S]? = some (objQ t1) := by (have := hZ.out.1.1.o.a.s; rw [hSS] at this; exact this)
                have cO : Z1.cell? ⟨S, bn * 64, none⟩ = some (.bool (t1 bn 0)) := cell_lcQ hS1 r0
                have fO : Z1.frozen? ⟨S, bn * 64, none⟩ = false := frozen_of_row _ _ _ _ _ hS1
                have nx : Hid (∀ W', W' = Z1.setCell ⟨S, bn * 64, none⟩ (.bool true) → SpG w W' M s (upP t1 bn 0) BB F FB ∧ SpJ M.pr.fns f p s (upP t1 bn 0) g F.fn (c + 1)) := fun W' e => by
                  rw [e, ← hSS]
                  have h2 := hZ.out.1.2.spawn hFn hlt ⟨hb, by rw [hin.out]⟩
                  rw [hin.out] at h2
                  have h3 := hZ.out.1.1.put hbn8 (k := 0) (by omega)
                  rw [Nat.add_zero] at h3
                  exact ⟨h3, h2⟩
                clear hS1 hZ hsp r0
                go_wp2_with (first
                  | (refine wpList_putb rfl 4 _ _ rfl ⟨S, bn * 64, none⟩ rfl true rfl (by kernel_rfl) _ cO fO ?_; intro W1 hW1; (have hn : Hid _ := nx.out W1 hW1); clear hW1 cO fO))
                go_roundw
                case rel => exact ⟨c + 1, by omega, by go_num, _, hn.out⟩
                case measure => simp [intOf]; omega
          
              · have e62 : (op == 62) = false := beq_eq_false_iff_ne.mpr h62
                have hn : Hid (SpG w Z1 M s t1 BB F FB ∧ SpJ M.pr.fns f p s t1 g F.fn (c + 1)) := ⟨hZ.out.1.1, hZ.out.1.2.skip fun q => h62 (by have e := q.2; rw [hin.out] at e; exact e)⟩
                clear hZ hsp
                go_wp2
                go_roundw
                case rel => exact ⟨c + 1, by omega, by go_num, _, hn.out⟩
                case measure => simp [intOf]; omega
          
          · have hce : c = F.code.length := by omega
            have hcI : ¬ (c : Int) < F.code.length := by omega
            rw [hce] at hJ
            have hE : Hid (SpO w wr M s t BB ∧ SpI M.pr.fns f p s t (g + 1)) := ⟨hJ.out.1.o, hJ.out.2.done hFn⟩
            clear hJ
            go_wp2
            go_roundw
            case rel => exact ⟨g + 1, by omega, by go_num, _, hE.out⟩
            case measure => simp [intOf]; omega
      
      · have hge : g = M.fns.length := by omega
        have hgI : ¬ (g : Int) < M.fns.length := by omega
        have hI : Hid (SpI M.pr.fns f p s t M.pr.fns.length) := (by (rw [show M.pr.fns.length = M.fns.length from List.length_map _, ← hge]; exact hI.out))
        have hS1 : wr.heap[S]? = some (objQ t) := by (have := hO.out.a.s; rw [hSS] at this; exact this)
        have hQ1 : wr.heap[BB]? = some (objQ s) := hO.out.q
        have hR1 : wr.heap[w.heap.size + 1]? = some (objQ emS) := hO.out.a.r
        have eq1 := eqQ_run t s
        obtain ⟨eb, heb⟩ : ∃ eb, Hid (((List.range 8).all fun f => (List.range 64).all fun k => t f k == s f k) = eb) := ⟨_, rfl⟩
        rw [heb.out] at eq1
        cases eb with
        | true =>
          have hsm : Hid (∀ f k, f < 8 → k < 64 → t f k = s f k) := same_sp.mp heb.out
          clear heb
          go_wp2_with (first
            | ((with_reducible refine at_loadQ 66 (.tmp 7) rfl ?_); refine stopQ_out ?_; refine wpList_load_row rfl 66 _ rfl S rfl _ _ _ _ hS1 huS.out rfl (infoSp _) ?_)
            | ((with_reducible refine at_loadQ 66 (.tmp 8) rfl ?_); refine stopQ_out ?_; refine wpList_load_row rfl 66 _ rfl BB rfl _ _ _ _ hQ1 huS.out rfl (infoSp _) ?_)
            | ((with_reducible refine at_storeQ 66 _ _ rfl ?_); refine stopQ_out ?_; refine wpList_store_row rfl 66 _ _ rfl (w.heap.size + 1) (rowS t) rfl rfl _ _ hR1 (infoSp _) (by rw [rowS_size, rowS_size]) (rowS_one _) ?_))
          exact bodyPost_ret (results_sp Tryd.results28 _ _ (w.heap.size + 1) t rfl (setRow_heap _ _ _ _ _ _ hR1)) rfl ⟨t, rfl, hI.out.fin hl8.out (fun F hF => by obtain ⟨F', hF', rfl⟩ := List.mem_map.mp hF; exact (hok0.out F' hF').1.l64) hsm.out, below_setRowQ hO.out.a.b (by omega) _⟩
        | false =>
          have hd : Hid (missQ S wr < miss (fun j => s (j / 64) (j % 64)) 512) := by
            show _ < _
            rw [missQ_is hS1]
            refine missQ_lt (fun a k q => hI.out.up a k q) ?_
            apply Classical.byContradiction
            intro q
            have : ((List.range 8).all fun f => (List.range 64).all fun k => t f k == s f k) = true := same_sp.mpr fun a k ha hk => Classical.byContradiction fun h => q ⟨a, k, ha, hk, h⟩
            rw [heb.out] at this
            cases this
          clear heb
          have hE : Hid (SpA w wr M t ∧ SpI M.pr.fns f p t t 0) := ⟨hO.out.a, hI.out.again⟩
          go_wp2_with (first
            | ((with_reducible refine at_loadQ 66 (.tmp 7) rfl ?_); refine stopQ_out ?_; refine wpList_load_row rfl 66 _ rfl S rfl _ _ _ _ hS1 huS.out rfl (infoSp _) ?_)
            | ((with_reducible refine at_loadQ 66 (.tmp 8) rfl ?_); refine stopQ_out ?_; refine wpList_load_row rfl 66 _ rfl BB rfl _ _ _ _ hQ1 huS.out rfl (infoSp _) ?_))
          go_roundw
          case rel => exact ⟨t, hE.out⟩
          case measure => rw [hms.out]; exact hd.out
end Go.Proofs.YtlcljdldhajkiaaDoor.pg
/- The accesses that are told. -/
namespace Go.Proofs.YtlcljdldhajkiaaDoor.pg
open Go.ChangeShapes Go.WideShapes Go.ChangeAt Go.RowKit
set_option linter.unusedVariables false
set_option linter.unusedSimpArgs false
set_option maxRecDepth 100000
attribute [local go_sem ↓] Go.wp_at_zero Go.wp_at_succ
theorem infoAq : (Tryd.prog.info? 53).map (fun i => (i.zero, i.size, i.bytes)) = some (some (.agg #[.int .i64 0, .int .i64 0, .bool false]), 3, 24) := by kernel_rfl
theorem info8 {f : Nat → Int} : (Tryd.prog.info? 55).map (·.size) = some (intRow 8 f).toList.length := by rw [Array.length_toList, intRow_size]; kernel_rfl
theorem ix8V (f : Nat → Int) (k : Nat) (h : k < 8) : ∀ wx, (Instr.index 55 (.agg (intRow 8 f)) (.int .i64 (k : Int))).run Tryd.prog wx = .ok (.int .i64 (f k)) wx := by
  intro wx
  have u := Tryd.underlying55
  have z := Tryd.sizeOf3
  have ub := Tryd.underlying3
  have q1 : (k : Int) < 8 := by omega
  have q2 : (0 : Int) ≤ (k : Int) := by omega
  simp [Instr.index, run_underlying u, asIntOf, go_sem, z, q1, q2, part, isAgg, run_underlying ub, intRow_at h]
  intro q
  omega
theorem row_q {B : Nat} {w : World} {O : Nat → Int} (h : w.heap[B]? = some (objO O)) (k : Nat) (hk : k < 7) : w.rangeAt B (k * 8) (intRow 8 fun m => O (k * 8 + m)).toList := fun j v hj => by
  have hl : j < 8 := by
    have := (List.getElem?_eq_some_iff.mp hj).1
    rw [Array.length_toList, intRow_size] at this
    exact this
  have e : v = .int .i64 (O (k * 8 + j)) := by
    rw [Array.getElem?_toList, intRow_at hl] at hj
    exact (Option.some.inj hj).symm
  rw [e]
  exact cell_lcQ h (intRow_at (by omega))
structure AcS (w : World) (L : List AcQ) (va : Option Addr) (vc : Nat) (wr : World) : Prop where
  be : Below w.heap.size w wr
  ow : OwnL wr w.heap.size 53 3 va vc (L.map AcQ.cells)
theorem AcS.grown {w : World} {L : List AcQ} {va va' : Option Addr} {vc vc' : Nat} {wr w' : World} {x : AcQ} (h : AcS w L va vc wr) (hg : Grown wr w.heap.size 53 3 va (L.map AcQ.cells) x.cells va' vc' w') : AcS w (L ++ [x]) va' vc' w' :=
  ⟨below_min h.be h.be.size hg.be, by rw [List.map_append]; exact hg.ow⟩
theorem AcS.rows {w : World} {L : List AcQ} {va : Option Addr} {vc : Nat} {wr : World} (h : AcS w L va vc wr) : Rows wr 3 va vc (L.map AcQ.cells) := own_rows h.ow (by intro r hr; obtain ⟨x, _, rfl⟩ := List.mem_map.mp hr; rfl)
set_option maxHeartbeats 2000000 in
theorem listO_any (B : Nat) (O : Nat → Int) (w : World) (hB0 : w.heap[B]? = some (objO O)) :
    Calls Tryd.prog 27 #[.pointer (some ⟨B, 0, none⟩)] w fun e w' => ∃ va vc, e = .returned (.slice va (lstO O 56).length vc) ∧ AcS w (lstO O 56) va vc w' := by
  obtain ⟨iA, hiA', hzA', hsA', hbA'⟩ := info_q infoAq
  have hiA : Hid (Tryd.prog.info? 53 = some iA) := hiA'
  have hzA : Hid _ := hzA'
  have hsA : Hid _ := hsA'
  have hbA : Hid _ := hbA'
  clear hiA' hzA' hsA' hbA'
  have hB : Hid (w.heap[B]? = some (objO O)) := hB0
  have hu8 : Hid (Tryd.prog.underlying 55 = _) := Tryd.underlying55
  have s0 : Hid (AcS w (lstO O (0 * 8)) none 0 w) := ⟨Below.refl _ _, own_nil_q _ _ _ _⟩
  clear hB0
  go_enter Tryd.func27, Tryd.ntmps27
  go_wp2_with fail
  go_loopw [3, 7] (fun o u wr => ∃ (kd : Nat) (va : Option Addr) (vc : Nat), kd ≤ 7 ∧ u = .int .i64 (kd : Int) ∧ o = .slice va (lstO O (kd * 8)).length vc ∧ Hid (AcS w (lstO O (kd * 8)) va vc wr)) (fun _ u _ => 7 - (intOf u).toNat)
  case atStart => exact ⟨0, none, 0, by omega, rfl, rfl, s0⟩
  case round =>
    obtain ⟨kd, va, vc, hkd, rfl, rfl, hst⟩ := hrel
    clear s0
    by_cases hlt : kd < 7
    · have hkI : (kd : Int) < 7 := by omega
      have xK := ix7Q B kd hlt
      have hrg : Hid (wr.rangeAt B (kd * 8) (intRow 8 fun m => O (kd * 8 + m)).toList) := row_q (blk_onQ hB.out (hst.out.be)) kd hlt
      go_wp2_with (first
        | (refine wpList_load_mid rfl 55 _ rfl B (kd * 8) rfl (intRow 8 fun m => O (kd * 8 + m)).toList _ hrg.out hu8.out rfl info8 ?_))
      clear hrg xK
      go_loopw [3, 15] (fun o u wr => ∃ (n : Nat) (va : Option Addr) (vc : Nat), n ≤ 8 ∧ u = .int .i64 (n : Int) ∧ o = .slice va (lstO O (kd * 8 + n)).length vc ∧ Hid (AcS w (lstO O (kd * 8 + n)) va vc wr)) (fun _ u _ => 8 - (intOf u).toNat)
      case atStart => exact ⟨0, va, vc, by omega, rfl, rfl, hst⟩
      case round =>
        obtain ⟨n, va, vc, hn, rfl, rfl, hs⟩ := hrel
        clear hst
        by_cases hlt2 : n < 8
        · have hnI : (n : Int) < 8 := by omega
          have xV := ix8V (fun m => O (kd * 8 + m)) n hlt2
          have hLl : Hid ((lstO O (kd * 8 + n)).length ≤ 56) := by (have := lstO_len O (kd * 8 + n); show _ ≤ _; omega)
          obtain ⟨v, hv⟩ : ∃ v, O (kd * 8 + n) = v := ⟨_, rfl⟩
          rw [hv] at xV
          by_cases h0 : v = 0
          · subst h0
            have hN : Hid (lstO O (kd * 8 + (n + 1)) = lstO O (kd * 8 + n)) := by
              show _ = _
              rw [show kd * 8 + (n + 1) = (kd * 8 + n) + 1 by omega, lstO_step]
              unfold accO
              rw [hv, if_pos rfl, List.append_nil]
            clear hv
            go_wp2
            go_roundw
            case rel => exact ⟨n + 1, va, vc, by omega, by go_num, by rw [hN.out], by rw [hN.out]; exact hs⟩
            case measure => simp [intOf]; omega
        
          · have e0 : (v == 0) = false := beq_eq_false_iff_ne.mpr h0
            have hN : Hid (lstO O (kd * 8 + (n + 1)) = lstO O (kd * 8 + n) ++ [⟨(kd : Int), (n : Int), v == 2⟩]) := by
              show _ = _
              rw [show kd * 8 + (n + 1) = (kd * 8 + n) + 1 by omega, lstO_step]
              unfold accO
              rw [hv, if_neg h0, show (kd * 8 + n) / 8 = kd by omega, show (kd * 8 + n) % 8 = n by omega]
            generalize lstO O (kd * 8 + n) = L at *
            clear hv
            go_wp2_with (first
              | (at_builtin; (refine wpList_app1 rfl (.tmp 21) (.tmp 27) 27 rfl w.heap.size 53 iA _ 3 24 Tryd.underlying27 hiA.out hzA.out hsA.out hbA.out rfl (by decide) va vc (L.map AcQ.cells) (by rw [List.length_map]; rfl) hs.out.ow [.int .i64 (kd : Int), .int .i64 (n : Int), .bool (v == 2)] rfl rfl (by simp [Value.oneCell']) (by rw [List.length_map]; have := hLl.out; unfold maxLen; omega) (by rw [List.length_map]; have := hLl.out; omega) hs.out.be.size ?_); intro va' vc' w2 hg; rw [List.length_map]; (have hg2 : Hid (AcS w (L ++ [⟨(kd : Int), (n : Int), v == 2⟩]) va' vc' w2) := hs.out.grown hg); clear hg))
            go_roundw
            case rel => exact ⟨n + 1, va', vc', by omega, by go_num, by rw [hN.out, List.length_append]; rfl, by rw [hN.out]; exact hg2⟩
            case measure => simp [intOf]; omega
        
        · have hne : n = 8 := by omega
          subst hne
          have hN : Hid (lstO O ((kd + 1) * 8) = lstO O (kd * 8 + 8)) := by (show _ = _; rw [show (kd + 1) * 8 = kd * 8 + 8 by omega])
          go_wp2
          go_roundw
          case rel => exact ⟨kd + 1, va, vc, by omega, by go_num, by rw [hN.out], by rw [hN.out]; exact hs⟩
          case measure => simp [intOf]; omega
    
    · have hke : kd = 7 := by omega
      subst hke
      go_wp2
      go_ret
      exact ⟨va, vc, rfl, hst.out⟩
end Go.Proofs.YtlcljdldhajkiaaDoor.pg
