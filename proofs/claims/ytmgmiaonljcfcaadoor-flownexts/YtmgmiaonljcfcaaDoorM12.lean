/- The contract of package prog's Check. -/
import Derived.Test.YtmgmiaonljcfcaaDoorM11
namespace Go.Proofs.YtmgmiaonljcfcaaDoor.pg
open Go.ChangeShapes Go.WideShapes Go.ChangeAt Go.RowKit
set_option linter.unusedVariables false
set_option linter.unusedSimpArgs false
set_option maxRecDepth 100000
theorem chk_sizes {ins : Pr → Fn → Ins → Int} {P : Pr} {e : Int} (h : sizesE P = e) (he : e ≠ 0) : chk ins P = (e, 0, 0) := by unfold chk; rw [if_neg (by rw [h]; exact he), h]
theorem chk_fns {ins : Pr → Fn → Ins → Int} {P : Pr} (h : sizesE P = 0) : chk ins P = fnsE ins P P.fns 0 := by unfold chk; rw [if_pos h]
theorem ret_chk {a b c a' b' c' : Int} (h : (a, b, c) = (a', b', c')) : Ending.returned (.tuple #[.int .i64 a, .agg #[.int .i64 b, .int .i64 c]]) = .returned (.tuple #[.int .i64 a', .agg #[.int .i64 b', .int .i64 c']]) := by
  cases h; rfl
abbrev objZ : Obj := .cells #[.int .i64 0, .int .i64 0] 51
theorem fns_get (M : MPr) (k : Nat) (x : MFn) (hx : M.fns[k]? = some x) : M.pr.fns[k]? = some x.fn := by simp [MPr.pr, hx]
set_option maxHeartbeats 4000000 in
theorem check_any (M : MPr) (w : World) (hl : M.lies w) (hF : prog.Forms w) (a b c : Int) (hr : Hid (chk insP M.pr = (a, b, c))) :
    Calls Tryd.prog 58 #[M.val] w fun e w' => e = .returned (.tuple #[.int .i64 a, .agg #[.int .i64 b, .int .i64 c]]) ∧ Below w.heap.size w w' := by
  have hb := boxed2 w (objP M) objZ
  have hL := hl.later hb
  have hFW := hF.later hb
  have hln := rows_len hl.2.2.1
  obtain ⟨e, he⟩ : ∃ e, Hid (sizesE M.pr = e) := ⟨_, rfl⟩
  have hcs := checkSizes_any M _ hL e he
  clear hl hF
  go_enter Tryd.func58, Tryd.ntmps58
  by_cases h0 : e = 0
  · subst h0
    have hc0 := chk_fns (ins := insP) he.out
    go_wp2_with (go_at_call 65; (with_reducible refine hcs.mono ?_); rintro e w2 ⟨rfl, hb2⟩; obtain ⟨hbc, hbf⟩ := bcell hb2)
    clear hbc hbf
    go_loopw [17] (fun u wr => ∃ k : Nat, k ≤ M.fns.length ∧ u = .int .i64 k ∧ (∀ j y, j < k → M.fns[j]? = some y → (fnE insP M.pr (0 + j) y.fn).1 = 0) ∧ Below ((w.alloc (objP M)).alloc objZ).heap.size ((w.alloc (objP M)).alloc objZ) wr) (fun u _ => M.fns.length - (intOf u).toNat)
    case atStart => exact ⟨0, Nat.zero_le _, rfl, fun j y hj => by omega, hb2⟩
    case round =>
      obtain ⟨k, hk, rfl, hall, hbr⟩ := hrel
      have hall' : ∀ i f, i < k → M.pr.fns[i]? = some f → (fnE insP M.pr (0 + i) f).1 = 0 := fun i y hi hy => by
        simp only [MPr.pr, List.getElem?_map, Option.map_eq_some_iff] at hy
        obtain ⟨y', hy', rfl⟩ := hy
        exact hall i y' hi hy'
      by_cases hlt : k < M.fns.length
      · obtain ⟨x, hx, hm⟩ := get_lt M.fns k hlt
        obtain ⟨e, q, hE⟩ : ∃ e q, Hid (fnE insP M.pr k x.fn = (e, q)) := ⟨_, _, rfl⟩
        have hcall := checkFunc_any M k x wr e q (hL.later hbr) (hFW.later hbr) hx hE
        by_cases h0 : e = 0
        · subst h0
          obtain ⟨hbc, hbf⟩ := bcell hbr
          go_wp2_with (go_at_call 66; (with_reducible refine hcall.mono ?_); rintro e w3 ⟨rfl, hb3⟩)
          go_roundw
          case rel => exact ⟨k + 1, by omega, by go_num, (fun j y hj hy => by
            by_cases hjk : j = k
            · subst hjk; rw [hx] at hy; cases hy; rw [Nat.zero_add, hE.out]
            · exact hall j y (by omega) hy), bthen hbr hb3⟩
          case measure => simp [intOf]; omega
        · have hv : Hid (chk insP M.pr = (e, (k : Int), q)) := hc0.trans ((fnsE_hit insP M.pr _ 0 k x.fn (fns_get M k x hx) hall' (by rw [Nat.zero_add, hE.out]; exact h0)).trans (by rw [Nat.zero_add, hE.out]))
          have hb4 : Hid (Below w.heap.size w wr) := bthen hb hbr
          obtain ⟨hbc, hbf⟩ := bcell hbr
          go_wp2_with (go_at_call 66; (with_reducible refine hcall.mono ?_); rintro e' w3 ⟨rfl, hb3⟩; (have hb5 := bthen hbr hb3); clear hbc hbf; obtain ⟨hbc, hbf⟩ := bcell hb5)
          exact bodyPost_ret (v := .tuple #[.int .i64 e, .agg #[.int .i64 k, .int .i64 q]]) (by simp [results, Tryd.results58, go_sem, hbc]) rfl ⟨ret_chk (hv.out.symm.trans hr.out), ((bthen hb hb5).setCell (by simp) _).setCell (by simp) _⟩
      · have hv : Hid (chk insP M.pr = (0, 0, 0)) := hc0.trans (fnsE_zero insP M.pr _ 0 fun i f hf => hall' i f (by have := (List.getElem?_eq_some_iff.mp hf).1; simp [MPr.pr] at this; omega) hf)
        obtain ⟨hbc, hbf⟩ := bcell hbr
        go_wp2
        exact bodyPost_ret (v := .tuple #[.int .i64 0, .agg #[.int .i64 0, .int .i64 0]]) (by simp [results, Tryd.results58, go_sem, hbc]) rfl ⟨ret_chk (hv.out.symm.trans hr.out), ((bthen hb hbr).setCell (by simp) _).setCell (by simp) _⟩
  · have hv : Hid (chk insP M.pr = (e, 0, 0)) := chk_sizes he.out h0
    go_wp2_with (go_at_call 65; (with_reducible refine hcs.mono ?_); rintro e w2 ⟨rfl, hb2⟩; obtain ⟨hbc, hbf⟩ := bcell hb2)
    exact bodyPost_ret (v := .tuple #[.int .i64 e, .agg #[.int .i64 0, .int .i64 0]]) (by simp [results, Tryd.results58, go_sem, hbc]) rfl ⟨ret_chk (hv.out.symm.trans hr.out), ((bthen hb hb2).setCell (by simp) _).setCell (by simp) _⟩
end Go.Proofs.YtmgmiaonljcfcaaDoor.pg
/- One place alone; what is wrong with a place. -/
namespace Go.Proofs.YtmgmiaonljcfcaaDoor.pg
open Go.ChangeShapes Go.WideShapes Go.ChangeAt Go.RowKit Go.Shelf
set_option linter.unusedVariables false
set_option linter.unusedSimpArgs false
set_option maxRecDepth 100000
def onePl (pc : Nat) : Nat → Bool := fun k => decide (k = pc)
theorem just_any (pc : Nat) (hp : pc < 64) (w : World) : Calls Tryd.prog 35 #[.int .i64 (pc : Int)] w fun e w' => e = .returned (.agg (boolRow 64 (onePl pc))) ∧ Below w.heap.size w w' := by
  have huP : Hid (Tryd.prog.underlying 60 = _) := Tryd.underlying60
  have hzP : Hid (∀ w, (zeroValue 60).run Tryd.prog w = .ok (.agg (boolRow 64 fun _ => false)) w) := zeroSt
  obtain ⟨p1, p2⟩ := two_new w (objPl fun _ => false) (objPl fun _ => false)
  have hb := boxed2 w (objPl fun _ => false) (objPl fun _ => false)
  have xI := ix_pl (w.heap.size + 1) pc hp
  have cO := cell_ofF (k := pc) (v := .bool false) p2 (boolRow_at hp)
  have fO := frozen_of_row _ _ pc _ _ p2
  have nx : Hid (∀ W', W' = ((w.alloc (objPl fun _ => false)).alloc (objPl fun _ => false)).setCell ⟨w.heap.size + 1, pc, none⟩ (.bool true) → W'.heap[w.heap.size]? = some (objPl fun _ => false) ∧ W'.heap[w.heap.size + 1]? = some (objPl (onePl pc)) ∧ Below w.heap.size w W') := fun W' e => by
    rw [e]
    refine ⟨(Below.heap_setCell _ _ _ _ (by show w.heap.size ≠ w.heap.size + 1; omega)).trans p1, ?_, hb.setCell (p := ⟨w.heap.size + 1, pc, none⟩) (by show w.heap.size ≤ w.heap.size + 1; omega) _⟩
    rw [setCell_eq_setRow _ (w.heap.size + 1) pc _ _ _ _ p2, boolRow_set, setRow_heap _ (w.heap.size + 1) _ _ _ _ p2]
    have : (fun b => if b = pc then true else false) = onePl pc := by funext b; unfold onePl; by_cases c : b = pc <;> simp [c]
    rw [this]
  clear p1 p2 hb
  go_enter Tryd.func35, Tryd.ntmps35
  go_wp2_with (first
    | (refine wpList_alloc_big rfl 60 rfl hzP.out ?_)
    | (refine wpList_putb rfl 4 _ _ rfl ⟨w.heap.size + 1, pc, none⟩ rfl true rfl (by kernel_rfl) _ cO fO ?_; intro W1 hW1; (have hn := nx.out W1 hW1); clear hW1; obtain ⟨n1, n2, n3⟩ := hn)
    | (refine wpList_load_row rfl 60 _ rfl (w.heap.size + 1) rfl _ _ _ _ n2 huP.out rfl (infoSt _) ?_)
    | (refine wpList_store_row rfl 60 _ _ rfl w.heap.size (boolRow 64 (onePl pc)) rfl rfl _ _ n1 (infoSt _) (by rw [boolRow_size, boolRow_size]) (boolRow_one _ _) ?_))
  exact bodyPost_ret (results_pl Tryd.results35 _ _ w.heap.size _ rfl (setRow_heap _ _ _ _ _ _ n1)) rfl ⟨rfl, below_rowN n3 (Nat.le_refl _)⟩
/-- What is wrong with a place. -/
def fitF (P : Pr) (f : Int) : Int := if (chk insP P).1 = 0 then (if 0 ≤ f ∧ f < P.fns.length then 0 else 1) else 3
set_option maxHeartbeats 1000000 in
theorem fcheckFunc_any (M : MPr) (f : Int) (w : World) (hM : M.lies w) (hF : prog.Forms w) (e : Int) (he : Hid (e = fitF M.pr f)) : Calls Tryd.prog 51 #[M.val, .int .i64 f] w fun e' w' => e' = .returned (.int .i64 e) ∧ Below w.heap.size w w' := by
  obtain ⟨a, b, c, hc⟩ : ∃ a b c, Hid (chk insP M.pr = (a, b, c)) := ⟨_, _, _, rfl⟩
  have hb := boxed w (objP M)
  have hcall := check_any M _ (hM.later hb) (hF.later hb) a b c hc
  have bP := boxP_new w M
  have bPH : Hid (BoxP (w.alloc (objP M)) w.heap.size M) := bP
  have hbH : Hid (Below w.heap.size w (w.alloc (objP M))) := hb
  have hl : ((M.pr.fns.length : Nat) : Int) = M.fns.length := by show (((M.fns.map MFn.fn).length : Nat) : Int) = _; rw [List.length_map]
  by_cases ca : a = 0
  · subst ca
    have e1 : e = if 0 ≤ f ∧ f < M.fns.length then 0 else 1 := by rw [he.out, fitF, if_pos (by rw [hc.out]), hl]
    clear he hc hM hF hb
    by_cases f0 : f < 0
    · have e2 : e = 1 := by rw [e1, if_neg (by omega)]
      subst e2
      have d0 : decide (f < 0) = true := decide_eq_true f0
      clear e1 hl
      go_enter Tryd.func51, Tryd.ntmps51
      go_wp2_with (go_at_call 58; (with_reducible refine hcall.mono ?_); rintro e w2 ⟨rfl, hb2⟩)
      go_ret
      exact ⟨rfl, bthen (bthen hbH.out hb2) (boxed _ _)⟩
    have d0 : decide (f < 0) = false := decide_eq_false f0
    by_cases f1 : (M.fns.length : Int) ≤ f
    · have e2 : e = 1 := by rw [e1, if_neg (by omega)]
      subst e2
      have d1 : decide ((M.fns.length : Int) ≤ f) = true := decide_eq_true f1
      clear e1 hl f0 f1
      go_enter Tryd.func51, Tryd.ntmps51
      go_wp2_with (go_at_call 58; (with_reducible refine hcall.mono ?_); rintro e w2 ⟨rfl, hb2⟩; (have p3 := ((bPH.out.later hb2).later (boxed w2 (Obj.cells #[.int .i64 b, .int .i64 c] 51))).2.2.2))
      go_ret
      exact ⟨rfl, bthen (bthen hbH.out hb2) (boxed _ _)⟩
    · have e2 : e = 0 := by rw [e1, if_pos (by omega)]
      subst e2
      have d1 : decide ((M.fns.length : Int) ≤ f) = false := decide_eq_false f1
      clear e1 hl f0 f1
      go_enter Tryd.func51, Tryd.ntmps51
      go_wp2_with (go_at_call 58; (with_reducible refine hcall.mono ?_); rintro e w2 ⟨rfl, hb2⟩; (have p3 := ((bPH.out.later hb2).later (boxed w2 (Obj.cells #[.int .i64 b, .int .i64 c] 51))).2.2.2))
      go_ret
      exact ⟨rfl, bthen (bthen hbH.out hb2) (boxed _ _)⟩
  · have e3 : e = 3 := by rw [he.out, fitF, if_neg (by rw [hc.out]; exact ca)]
    subst e3
    have d : (a != 0) = true := by simpa using ca
    clear he hc hM hF ca hl hb
    go_enter Tryd.func51, Tryd.ntmps51
    go_wp2_with (go_at_call 58; (with_reducible refine hcall.mono ?_); rintro e w2 ⟨rfl, hb2⟩)
    go_ret
    exact ⟨rfl, bthen (bthen hbH.out hb2) (boxed _ _)⟩
def fnAtF (P : Pr) (n : Int) : Fn := P.fns.getD n.toNat ⟨0, 0, [], []⟩
def fitP (P : Pr) (f pc : Int) : Int := if fitF P f = 0 then (if 0 ≤ pc ∧ pc < (fnAtF P f).code.length then 0 else 1) else fitF P f
theorem fitF_ok {P : Pr} {f : Int} (h : fitF P f = 0) : (chk insP P).1 = 0 ∧ 0 ≤ f ∧ f < P.fns.length := by
  unfold fitF at h
  split at h
  · rename_i h1
    split at h
    · rename_i h2; exact ⟨h1, h2⟩
    · cases h
  · cases h
theorem fn_get {M : MPr} {f : Int} (h : fitF M.pr f = 0) : ∃ F, M.fns[f.toNat]? = some F ∧ F ∈ M.fns ∧ fnAtF M.pr f = F.fn := by
  obtain ⟨_, h1, h2⟩ := fitF_ok h
  have hl : ((M.pr.fns.length : Nat) : Int) = M.fns.length := by show (((M.fns.map MFn.fn).length : Nat) : Int) = _; rw [List.length_map]
  obtain ⟨F, h3, h4⟩ := get_lt M.fns f.toNat (by omega)
  refine ⟨F, h3, h4, ?_⟩
  unfold fnAtF
  rw [List.getD_eq_getElem?_getD]
  show ((M.fns.map MFn.fn)[f.toNat]?).getD _ = _
  rw [List.getElem?_map, h3]
  rfl
set_option maxHeartbeats 1000000 in
theorem fcheckPlace_any (M : MPr) (f pc : Int) (w : World) (hM : M.lies w) (hF : prog.Forms w) (e : Int) (he : Hid (e = fitP M.pr f pc)) : Calls Tryd.prog 33 #[M.val, .int .i64 f, .int .i64 pc] w fun e' w' => e' = .returned (.int .i64 e) ∧ Below w.heap.size w w' := by
  have hb := boxed w (objP M)
  have bP := boxP_new w M
  have bPH : Hid (BoxP (w.alloc (objP M)) w.heap.size M) := bP
  have hbH : Hid (Below w.heap.size w (w.alloc (objP M))) := hb
  obtain ⟨c, hc⟩ : ∃ c, Hid (c = fitF M.pr f) := ⟨_, rfl⟩
  have hcall := fcheckFunc_any M f _ (hM.later hb) (hF.later hb) c hc
  have hMH : Hid (M.lies w) := hM
  by_cases c0 : c = 0
  · have h0 : fitF M.pr f = 0 := by rw [← hc.out]; exact c0
    obtain ⟨F, hFi, hFm, eF⟩ := fn_get h0
    obtain ⟨_, f0, f1⟩ := fitF_ok h0
    have e1 : e = if 0 ≤ pc ∧ pc < F.code.length then 0 else 1 := by rw [he.out, fitP, if_pos h0, eF]; rfl
    obtain ⟨fb, fo, hfix, hfb, fc0, fc1, fc2, fc3⟩ := fn_ix (hM.later hb).2.2.1 f.toNat F hFi
    rw [show ((f.toNat : Nat) : Int) = f by omega] at hfix
    have fc2H : Hid ((w.alloc (objP M)).cell? ⟨fb, fo + 2, none⟩ = some (.slice F.ca F.code.length F.ccap)) := fc2
    subst c0
    clear he hc hM hF hb eF hFi hFm h0 f0 f1 hfb fc0 fc1 fc2 fc3
    by_cases p0 : pc < 0
    · have e2 : e = 1 := by rw [e1, if_neg (by omega)]
      subst e2
      have d0 : decide (pc < 0) = true := decide_eq_true p0
      clear e1
      go_enter Tryd.func33, Tryd.ntmps33
      go_wp2_with (go_at_call 51; (with_reducible refine hcall.mono ?_); rintro e w2 ⟨rfl, hb2⟩)
      go_ret
      exact ⟨rfl, bthen hbH.out hb2⟩
    have d0 : decide (pc < 0) = false := decide_eq_false p0
    by_cases p1 : (F.code.length : Int) ≤ pc
    · have e2 : e = 1 := by rw [e1, if_neg (by omega)]
      subst e2
      have d1 : decide ((F.code.length : Int) ≤ pc) = true := decide_eq_true p1
      clear e1 p0 p1
      go_enter Tryd.func33, Tryd.ntmps33
      go_wp2_with (go_at_call 51; (with_reducible refine hcall.mono ?_); rintro e w2 ⟨rfl, hb2⟩; (have p3 := (bPH.out.later hb2).2.2.2); (have k2 := cell_later hb2 fc2H.out))
      go_ret
      exact ⟨rfl, bthen hbH.out hb2⟩
    · have e2 : e = 0 := by rw [e1, if_pos (by omega)]
      subst e2
      have d1 : decide ((F.code.length : Int) ≤ pc) = false := decide_eq_false p1
      clear e1 p0 p1
      go_enter Tryd.func33, Tryd.ntmps33
      go_wp2_with (go_at_call 51; (with_reducible refine hcall.mono ?_); rintro e w2 ⟨rfl, hb2⟩; (have p3 := (bPH.out.later hb2).2.2.2); (have k2 := cell_later hb2 fc2H.out))
      go_ret
      exact ⟨rfl, bthen hbH.out hb2⟩
  · have e1 : e = c := by rw [he.out, fitP, if_neg (by rw [← hc.out]; exact c0), hc.out]
    subst e1
    have d : (e != 0) = true := by simpa using c0
    clear he hc hM hF hb c0
    go_enter Tryd.func33, Tryd.ntmps33
    go_wp2_with (go_at_call 51; (with_reducible refine hcall.mono ?_); rintro e w2 ⟨rfl, hb2⟩)
    go_ret
    exact ⟨rfl, bthen hbH.out hb2⟩
end Go.Proofs.YtmgmiaonljcfcaaDoor.pg
/- What may come behind a place, and what may be come to from it: package flow's Next and Reach. -/
namespace Go.Proofs.YtmgmiaonljcfcaaDoor.pg
open Go.ChangeShapes Go.WideShapes Go.ChangeAt Go.RowKit Go.Shelf
set_option linter.unusedVariables false
set_option linter.unusedSimpArgs false
set_option maxRecDepth 100000
theorem cf_fnF {P : Program} {f : FuncId} {fn : Func} (hf : P.funcs[f]? = some fn) (h1 : (fn.name == "runtime.NumGoroutine") = false) (h2 : fn.body.isSome = true) (args : Array Value) (w : World) : (callFunc f args).run P w = .ok (.enter f args) w := cf_fn hf h1 h2 args w
theorem run_valueF {P : Program} {m : Sem Value} {v : Value} {w w' : World} (h : m.run P w = .ok v w') : (m.bind fun x => pure (.value x) : Sem Next).run P w = .ok (.value v) w' := by
  show (m >>= fun x => pure (Next.value x)).run P w = _
  rw [Sem.run_bind, h]
  rfl
section
variable {P : Program} {ops : Array Oper} {Q : Exit → Act → World → Prop} {S : World → Prop} {fuel : Nat} {listed : Array Bool} {a : Act} {w : World}
theorem reg_call3F {i : Nat} {o : Oper} (hr : Region.ready .any ops listed = [i]) (ho : ops[i]? = some o) (hw : Region.wanted o (yielded ops a.tmps) = true) (f : FuncId) (x y z : Operand) (t u q : TypeId)
    (hc0 : o.op = .call { callee := .value (.func f), args := #[x, y, z], argTypes := #[t, u, q] }) (v v2 v3 : Value) (hx : a.eval x = v) (hy : a.eval y = v2) (hz : a.eval z = v3) (hcf : (callFunc f #[v, v2, v3]).run P w = .ok (.enter f #[v, v2, v3]) w) (R : Ending → World → Prop) (hc : Calls P f #[v, v2, v3] w R)
    (hK : ∀ e w', R e w' → ∃ v, e = .returned v ∧ S w' ∧ (S w' → wpAnyH P .any ops Q S fuel (listed.setIfInBounds i true) (a.put o.dst v) w')) :
    wpAnyH P .any ops Q S (fuel + 1) listed a w := reg_call hr ho hw f #[x, y, z] #[t, u, q] hc0 #[v, v2, v3] (by simp [hx, hy, hz]) hcf R hc hK
end
set_option maxHeartbeats 2000000 in
theorem fnext_ok (M : MPr) (f : Int) (pc : Nat) (w : World) (hM : M.lies w) (hF : prog.Forms w) (F : MFn) (hFi : M.fns[f.toNat]? = some F) (hfl : FlowF F.fn) (f0 : 0 ≤ f) (hpc : pc < F.code.length) (hfit : fitP M.pr f pc = 0) :
    Calls Tryd.prog 8 #[M.val, .int .i64 f, .int .i64 (pc : Int)] w fun e w' => ∃ va vc, e = .returned (.tuple #[.slice va (lst (bAll F.fn (onePl pc) F.code.length) 64).length vc, .int .i64 0]) ∧ Rows w' 1 va vc ((lst (bAll F.fn (onePl pc) F.code.length) 64).map chCells) ∧ Below w.heap.size w w' := by
  have hb := boxed w (objP M)
  have bP := boxP_new w M
  have hFm := List.mem_of_getElem? hFi
  have hcall := fcheckPlace_any M f (pc : Int) _ (hM.later hb) (hF.later hb) 0 hfit.symm
  have hMH : Hid (M.lies w) := hM
  have bPH : Hid (BoxP (w.alloc (objP M)) w.heap.size M) := bP
  have hbH : Hid (Below w.heap.size w (w.alloc (objP M))) := hb
  have hl64 : pc < 64 := by have := hfl.l64; have h : F.fn.code.length = F.code.length := rfl; omega
  clear hM hF hfit hb
  go_enter Tryd.func8, Tryd.ntmps8
  go_wp2_with (go_at_call 33; (with_reducible refine hcall.mono ?_); rintro e w2 ⟨rfl, hb2⟩; clear bP)
  have hbW : Below w.heap.size w w2 := bthen hbH.out hb2
  have hPc := bPH.out.later hb2
  obtain ⟨fb, fo, hfix, hfb, fc0, fc1, fc2, fc3⟩ := fn_ix (hMH.out.later hbW).2.2.1 f.toNat F hFi
  rw [show ((f.toNat : Nat) : Int) = f by omega] at hfix
  have hlF : Hid (F.lies w) := hMH.out.2.2.2.2.2.2 F hFm
  clear hb2 hcall
  have hH : Below w2.heap.size w2 w2.drew := bey_drew w2
  have hrF : ∀ w', Below w2.heap.size w2 w' → w'.rangeAt fb fo [.int .i64 F.params, .int .i64 F.regs, .slice F.ca F.code.length F.ccap, .slice F.sa F.sels.length F.scap] := fun w' h' j v hj => by
    match j, hj with
    | 0, hj => cases hj; exact cell_later h' fc0
    | 1, hj => cases hj; exact cell_later h' fc1
    | 2, hj => cases hj; exact cell_later h' fc2
    | 3, hj => cases hj; exact cell_later h' fc3
  refine wp_region_held_drew (S := fun w' => Below w2.heap.size w2 w') (by kernel_rfl) hH (fun _ => ?_)
  refine reg_move (i := 0) rfl (by kernel_rfl) (by kernel_rfl) (by kernel_rfl) (fun _ _ _ _ h => h) rfl (.pointer (some ⟨w.heap.size, 3, none⟩)) (fun _ => by kernel_rfl) hH ?_
  simp only [Act.put, List.getElem_toArray, List.getElem_cons_succ, List.getElem_cons_zero, List.setIfInBounds_toArray, List.set_cons_zero, List.set_cons_succ]
  refine reg_load1 (i := 1) rfl (by kernel_rfl) (by kernel_rfl) (by kernel_rfl) (fun _ _ _ _ h => h) rfl 24 _ rfl ⟨w.heap.size, 3, none⟩ rfl _ Tryd.underlying24 rfl (.slice M.fa M.fns.length M.fcap) (fun w' h' => cell_later h' hPc.2.2.2) hH ?_
  simp only [Act.put, List.getElem_toArray, List.getElem_cons_succ, List.getElem_cons_zero, List.setIfInBounds_toArray, List.set_cons_zero, List.set_cons_succ]
  refine reg_move (i := 2) rfl (by kernel_rfl) (by kernel_rfl) (by kernel_rfl) (fun _ _ _ _ h => h) rfl (.int .i64 f) (fun _ => by kernel_rfl) hH ?_
  simp only [Act.put, List.getElem_toArray, List.getElem_cons_succ, List.getElem_cons_zero, List.setIfInBounds_toArray, List.set_cons_zero, List.set_cons_succ]
  refine reg_move (i := 3) rfl (by kernel_rfl) (by kernel_rfl) (by kernel_rfl) (fun _ _ _ _ h => h) rfl (.pointer (some ⟨fb, fo, none⟩)) (fun wx => by unfold execOp; exact run_valueF (hfix wx)) hH ?_
  simp only [Act.put, List.getElem_toArray, List.getElem_cons_succ, List.getElem_cons_zero, List.setIfInBounds_toArray, List.set_cons_zero, List.set_cons_succ]
  refine reg_load (i := 4) rfl (by kernel_rfl) (by kernel_rfl) (by kernel_rfl) (fun _ _ _ _ h => h) rfl 65 _ rfl fb fo rfl [.int .i64 F.params, .int .i64 F.regs, .slice F.ca F.code.length F.ccap, .slice F.sa F.sels.length F.scap] _ hrF Tryd.underlying65 rfl (by kernel_rfl) hH ?_
  simp only [Act.put, List.getElem_toArray, List.getElem_cons_succ, List.getElem_cons_zero, List.setIfInBounds_toArray, List.set_cons_zero, List.set_cons_succ]
  refine reg_move (i := 5) rfl (by kernel_rfl) (by kernel_rfl) (by kernel_rfl) (fun _ _ _ _ h => h) rfl (.int .i64 (pc : Int)) (fun _ => by kernel_rfl) hH ?_
  simp only [Act.put, List.getElem_toArray, List.getElem_cons_succ, List.getElem_cons_zero, List.setIfInBounds_toArray, List.set_cons_zero, List.set_cons_succ]
  refine reg_call1 (i := 6) (by kernel_rfl) rfl rfl 35 _ _ rfl (.int .i64 (pc : Int)) rfl (cf_fn Tryd.func35 (by kernel_rfl) (by kernel_rfl) _ _) _ (just_any pc hl64 _) ?_
  rintro e3 w3 ⟨rfl, hb3⟩
  have hH3 : Below w2.heap.size w2 w3 := bthen hH hb3
  refine ⟨_, rfl, hH3, fun _ => ?_⟩
  simp only [Act.put, List.getElem_toArray, List.getElem_cons_succ, List.getElem_cons_zero, List.setIfInBounds_toArray, List.set_cons_zero, List.set_cons_succ]
  refine reg_call2 (i := 7) (by kernel_rfl) rfl rfl 34 _ _ _ _ rfl F.val (.agg (boolRow 64 (onePl pc))) rfl rfl (cf_fn Tryd.func34 (by kernel_rfl) (by kernel_rfl) _ _) _ (behindAll_any F (onePl pc) w3 (hlF.out.later (bthen hbW hH3)) hfl) ?_
  rintro e4 w4 ⟨rfl, hb4⟩
  have hH4 : Below w2.heap.size w2 w4 := bthen hH3 hb4
  refine ⟨_, rfl, hH4, fun _ => ?_⟩
  simp only [Act.put, List.getElem_toArray, List.getElem_cons_succ, List.getElem_cons_zero, List.setIfInBounds_toArray, List.set_cons_zero, List.set_cons_succ]
  refine reg_call1 (i := 8) (by kernel_rfl) rfl rfl 36 _ _ rfl (.agg (boolRow 64 (bAll F.fn (onePl pc) F.code.length))) rfl (cf_fn Tryd.func36 (by kernel_rfl) (by kernel_rfl) _ _) _ (list_any _ _) ?_
  rintro e5 w5 ⟨va, vc, rfl, hls⟩
  have hH5 : Below w2.heap.size w2 w5 := bthen hH4 hls.be
  refine ⟨_, rfl, hH5, fun _ => ?_⟩
  simp only [Act.put, List.getElem_toArray, List.getElem_cons_succ, List.getElem_cons_zero, List.setIfInBounds_toArray, List.set_cons_zero, List.set_cons_succ]
  refine reg_move (i := 9) rfl (by kernel_rfl) (by kernel_rfl) (by kernel_rfl) (fun _ _ _ _ h => h) rfl (.slice va (lst (bAll F.fn (onePl pc) F.code.length) 64).length vc) (fun _ => rfl) hH5 ?_
  simp only [Act.put, List.getElem_toArray, List.getElem_cons_succ, List.getElem_cons_zero, List.setIfInBounds_toArray, List.set_cons_zero, List.set_cons_succ]
  refine reg_move (i := 10) rfl (by kernel_rfl) (by kernel_rfl) (by kernel_rfl) (fun _ _ _ _ h => h) rfl (.int .i64 0) (fun _ => by kernel_rfl) hH5 ?_
  simp only [Act.put, List.getElem_toArray, List.getElem_cons_succ, List.getElem_cons_zero, List.setIfInBounds_toArray, List.set_cons_zero, List.set_cons_succ]
  refine wpAnyH_done (by kernel_rfl) ?_ _
  have hrw : Hid (Rows w5 1 va vc ((lst (bAll F.fn (onePl pc) F.code.length) 64).map chCells)) := hls.rows
  have hbE : Hid (Below w.heap.size w w5) := bthen hbW hH5
  clear hls hrF hfix hPc fc0 fc1 fc2 fc3
  generalize hLL : lst (bAll F.fn (onePl pc) F.code.length) 64 = LL at *
  go_wp2
  go_ret2
  exact ⟨va, vc, by rw [hLL]; rfl, by rw [hLL]; exact hrw.out, hbE.out⟩
set_option maxHeartbeats 1000000 in
theorem fnext_err (M : MPr) (f pc : Int) (w : World) (hM : M.lies w) (hF : prog.Forms w) (e : Int) (he : Hid (e = fitP M.pr f pc)) (hne : e ≠ 0) :
    Calls Tryd.prog 8 #[M.val, .int .i64 f, .int .i64 pc] w fun e' w' => e' = .returned (.tuple #[.slice none 0 0, .int .i64 e]) ∧ Below w.heap.size w w' := by
  have hb := boxed w (objP M)
  have bP := boxP_new w M
  have hcall := fcheckPlace_any M f pc _ (hM.later hb) (hF.later hb) e he
  have hbH : Hid (Below w.heap.size w (w.alloc (objP M))) := hb
  have d : (e != 0) = true := by simpa using hne
  clear hM hF he hb hne
  go_enter Tryd.func8, Tryd.ntmps8
  go_wp2_with (go_at_call 33; (with_reducible refine hcall.mono ?_); rintro e w2 ⟨rfl, hb2⟩)
  go_ret2
  exact ⟨rfl, bthen hbH.out hb2⟩
set_option maxHeartbeats 2000000 in
theorem freach_ok (M : MPr) (f : Int) (pc : Nat) (w : World) (hM : M.lies w) (hF : prog.Forms w) (F : MFn) (hFi : M.fns[f.toNat]? = some F) (hfl : FlowF F.fn) (f0 : 0 ≤ f) (hpc : pc < F.code.length) (hfit : fitP M.pr f pc = 0) :
    Calls Tryd.prog 9 #[M.val, .int .i64 f, .int .i64 (pc : Int)] w fun e w' => ∃ R va vc, e = .returned (.tuple #[.slice va (lst R 64).length vc, .int .i64 0]) ∧ Least F.fn alw (onePl pc) R ∧ Rows w' 1 va vc ((lst R 64).map chCells) ∧ Below w.heap.size w w' := by
  have hb := boxed w (objP M)
  have bP := boxP_new w M
  have hFm := List.mem_of_getElem? hFi
  have hcall := fcheckPlace_any M f (pc : Int) _ (hM.later hb) (hF.later hb) 0 hfit.symm
  have hMH : Hid (M.lies w) := hM
  have bPH : Hid (BoxP (w.alloc (objP M)) w.heap.size M) := bP
  have hbH : Hid (Below w.heap.size w (w.alloc (objP M))) := hb
  have hl64 : pc < 64 := by have := hfl.l64; have h : F.fn.code.length = F.code.length := rfl; omega
  clear hM hF hfit hb
  go_enter Tryd.func9, Tryd.ntmps9
  go_wp2_with (go_at_call 33; (with_reducible refine hcall.mono ?_); rintro e w2 ⟨rfl, hb2⟩; clear bP)
  have hbW : Below w.heap.size w w2 := bthen hbH.out hb2
  have hPc := bPH.out.later hb2
  obtain ⟨fb, fo, hfix, hfb, fc0, fc1, fc2, fc3⟩ := fn_ix (hMH.out.later hbW).2.2.1 f.toNat F hFi
  rw [show ((f.toNat : Nat) : Int) = f by omega] at hfix
  have hlF : Hid (F.lies w) := hMH.out.2.2.2.2.2.2 F hFm
  clear hb2 hcall
  have hH : Below w2.heap.size w2 w2.drew := bey_drew w2
  have hrF : ∀ w', Below w2.heap.size w2 w' → w'.rangeAt fb fo [.int .i64 F.params, .int .i64 F.regs, .slice F.ca F.code.length F.ccap, .slice F.sa F.sels.length F.scap] := fun w' h' j v hj => by
    match j, hj with
    | 0, hj => cases hj; exact cell_later h' fc0
    | 1, hj => cases hj; exact cell_later h' fc1
    | 2, hj => cases hj; exact cell_later h' fc2
    | 3, hj => cases hj; exact cell_later h' fc3
  refine wp_region_held_drew (S := fun w' => Below w2.heap.size w2 w') (by kernel_rfl) hH (fun _ => ?_)
  refine reg_move (i := 0) rfl (by kernel_rfl) (by kernel_rfl) (by kernel_rfl) (fun _ _ _ _ h => h) rfl (.pointer (some ⟨w.heap.size, 3, none⟩)) (fun _ => by kernel_rfl) hH ?_
  simp only [Act.put, List.getElem_toArray, List.getElem_cons_succ, List.getElem_cons_zero, List.setIfInBounds_toArray, List.set_cons_zero, List.set_cons_succ]
  refine reg_load1 (i := 1) rfl (by kernel_rfl) (by kernel_rfl) (by kernel_rfl) (fun _ _ _ _ h => h) rfl 24 _ rfl ⟨w.heap.size, 3, none⟩ rfl _ Tryd.underlying24 rfl (.slice M.fa M.fns.length M.fcap) (fun w' h' => cell_later h' hPc.2.2.2) hH ?_
  simp only [Act.put, List.getElem_toArray, List.getElem_cons_succ, List.getElem_cons_zero, List.setIfInBounds_toArray, List.set_cons_zero, List.set_cons_succ]
  refine reg_move (i := 2) rfl (by kernel_rfl) (by kernel_rfl) (by kernel_rfl) (fun _ _ _ _ h => h) rfl (.int .i64 f) (fun _ => by kernel_rfl) hH ?_
  simp only [Act.put, List.getElem_toArray, List.getElem_cons_succ, List.getElem_cons_zero, List.setIfInBounds_toArray, List.set_cons_zero, List.set_cons_succ]
  refine reg_move (i := 3) rfl (by kernel_rfl) (by kernel_rfl) (by kernel_rfl) (fun _ _ _ _ h => h) rfl (.pointer (some ⟨fb, fo, none⟩)) (fun wx => by unfold execOp; exact run_valueF (hfix wx)) hH ?_
  simp only [Act.put, List.getElem_toArray, List.getElem_cons_succ, List.getElem_cons_zero, List.setIfInBounds_toArray, List.set_cons_zero, List.set_cons_succ]
  refine reg_load (i := 4) rfl (by kernel_rfl) (by kernel_rfl) (by kernel_rfl) (fun _ _ _ _ h => h) rfl 65 _ rfl fb fo rfl [.int .i64 F.params, .int .i64 F.regs, .slice F.ca F.code.length F.ccap, .slice F.sa F.sels.length F.scap] _ hrF Tryd.underlying65 rfl (by kernel_rfl) hH ?_
  simp only [Act.put, List.getElem_toArray, List.getElem_cons_succ, List.getElem_cons_zero, List.setIfInBounds_toArray, List.set_cons_zero, List.set_cons_succ]
  refine reg_move (i := 5) rfl (by kernel_rfl) (by kernel_rfl) (by kernel_rfl) (fun _ _ _ _ h => h) rfl (.int .i64 (pc : Int)) (fun _ => by kernel_rfl) hH ?_
  simp only [Act.put, List.getElem_toArray, List.getElem_cons_succ, List.getElem_cons_zero, List.setIfInBounds_toArray, List.set_cons_zero, List.set_cons_succ]
  refine reg_call1 (i := 6) (by kernel_rfl) rfl rfl 35 _ _ rfl (.int .i64 (pc : Int)) rfl (cf_fn Tryd.func35 (by kernel_rfl) (by kernel_rfl) _ _) _ (just_any pc hl64 _) ?_
  rintro e3 w3 ⟨rfl, hb3⟩
  have hH3 : Below w2.heap.size w2 w3 := bthen hH hb3
  refine ⟨_, rfl, hH3, fun _ => ?_⟩
  simp only [Act.put, List.getElem_toArray, List.getElem_cons_succ, List.getElem_cons_zero, List.setIfInBounds_toArray, List.set_cons_zero, List.set_cons_succ]
  refine reg_call3F (i := 7) (by kernel_rfl) rfl rfl 37 _ _ _ _ _ _ rfl F.val (.agg (boolRow 64 (onePl pc))) (.func (.func 38) #[] #[]) rfl rfl rfl (cf_fn Tryd.func37 (by kernel_rfl) (by kernel_rfl) _ _) _ (grown_any F (onePl pc) w3 (hlF.out.later (bthen hbW hH3)) hfl) ?_
  rintro e4 w4 ⟨R, rfl, hR, hb4⟩
  have hH4 : Below w2.heap.size w2 w4 := bthen hH3 hb4
  refine ⟨_, rfl, hH4, fun _ => ?_⟩
  simp only [Act.put, List.getElem_toArray, List.getElem_cons_succ, List.getElem_cons_zero, List.setIfInBounds_toArray, List.set_cons_zero, List.set_cons_succ]
  refine reg_call1 (i := 8) (by kernel_rfl) rfl rfl 36 _ _ rfl (.agg (boolRow 64 R)) rfl (cf_fn Tryd.func36 (by kernel_rfl) (by kernel_rfl) _ _) _ (list_any _ _) ?_
  rintro e5 w5 ⟨va, vc, rfl, hls⟩
  have hH5 : Below w2.heap.size w2 w5 := bthen hH4 hls.be
  refine ⟨_, rfl, hH5, fun _ => ?_⟩
  simp only [Act.put, List.getElem_toArray, List.getElem_cons_succ, List.getElem_cons_zero, List.setIfInBounds_toArray, List.set_cons_zero, List.set_cons_succ]
  refine reg_move (i := 9) rfl (by kernel_rfl) (by kernel_rfl) (by kernel_rfl) (fun _ _ _ _ h => h) rfl (.slice va (lst R 64).length vc) (fun _ => rfl) hH5 ?_
  simp only [Act.put, List.getElem_toArray, List.getElem_cons_succ, List.getElem_cons_zero, List.setIfInBounds_toArray, List.set_cons_zero, List.set_cons_succ]
  refine reg_move (i := 10) rfl (by kernel_rfl) (by kernel_rfl) (by kernel_rfl) (fun _ _ _ _ h => h) rfl (.int .i64 0) (fun _ => by kernel_rfl) hH5 ?_
  simp only [Act.put, List.getElem_toArray, List.getElem_cons_succ, List.getElem_cons_zero, List.setIfInBounds_toArray, List.set_cons_zero, List.set_cons_succ]
  refine wpAnyH_done (by kernel_rfl) ?_ _
  have hrw : Hid (Rows w5 1 va vc ((lst R 64).map chCells)) := hls.rows
  have hbE : Hid (Below w.heap.size w w5) := bthen hbW hH5
  clear hls hrF hfix hPc fc0 fc1 fc2 fc3
  generalize hLL : lst R 64 = LL at *
  go_wp2
  go_ret2
  exact ⟨R, va, vc, by rw [hLL]; rfl, hR, by rw [hLL]; exact hrw.out, hbE.out⟩
set_option maxHeartbeats 1000000 in
theorem freach_err (M : MPr) (f pc : Int) (w : World) (hM : M.lies w) (hF : prog.Forms w) (e : Int) (he : Hid (e = fitP M.pr f pc)) (hne : e ≠ 0) :
    Calls Tryd.prog 9 #[M.val, .int .i64 f, .int .i64 pc] w fun e' w' => e' = .returned (.tuple #[.slice none 0 0, .int .i64 e]) ∧ Below w.heap.size w w' := by
  have hb := boxed w (objP M)
  have bP := boxP_new w M
  have hcall := fcheckPlace_any M f pc _ (hM.later hb) (hF.later hb) e he
  have hbH : Hid (Below w.heap.size w (w.alloc (objP M))) := hb
  have d : (e != 0) = true := by simpa using hne
  clear hM hF he hb hne
  go_enter Tryd.func9, Tryd.ntmps9
  go_wp2_with (go_at_call 33; (with_reducible refine hcall.mono ?_); rintro e w2 ⟨rfl, hb2⟩)
  go_ret2
  exact ⟨rfl, bthen hbH.out hb2⟩
end Go.Proofs.YtmgmiaonljcfcaaDoor.pg
