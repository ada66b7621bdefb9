/- A goroutine settled: what Settle tells; package state's Settle. -/
import Derived.Test.YtjcmhaaohdmjpaaDoorM25
import Derived.Test.YtjcmhaaohdmjpaaDoorM26
import Derived.Test.YtjcmhaaohdmjpaaDoorM27
namespace Go.Proofs.YtjcmhaaohdmjpaaDoor.pg
open Go.ChangeShapes Go.WideShapes Go.ChangeAt Go.RowKit
set_option linter.unusedVariables false
set_option linter.unusedSimpArgs false
set_option maxRecDepth 100000
/-- What Settle tells. -/
noncomputable def settleR (P : Pr) (s : Sts) (g f : Int) : Sts × Int :=
  open Classical in
  if validS P s then (if 0 ≤ g ∧ g < 6 ∧ 0 ≤ f ∧ f ≤ 4096 then (if g < s.cnt then (setG s g.toNat (settleG word.apF (fnAt P (goAt s g).fn).code f.toNat (goAt s g)), 0) else (zeroS, 9)) else (zeroS, 1)) else (if (chk insP P).1 = 0 then (zeroS, 4) else (zeroS, 3))
theorem settleR_unvalid {P : Pr} {s : Sts} {g f : Int} (h : ¬ validS P s) : settleR P s g f = (zeroS, if (chk insP P).1 = 0 then 4 else 3) := by
  unfold settleR
  rw [if_neg h]
  split <;> rfl
theorem settleR_arg {P : Pr} {s : Sts} {g f : Int} (h : validS P s) (h2 : ¬ (0 ≤ g ∧ g < 6 ∧ 0 ≤ f ∧ f ≤ 4096)) : settleR P s g f = (zeroS, 1) := by
  unfold settleR
  rw [if_pos h, if_neg h2]
theorem settleR_none {P : Pr} {s : Sts} {g f : Int} (h : validS P s) (h2 : 0 ≤ g ∧ g < 6 ∧ 0 ≤ f ∧ f ≤ 4096) (h3 : ¬ g < s.cnt) : settleR P s g f = (zeroS, 9) := by
  unfold settleR
  rw [if_pos h, if_pos h2, if_neg h3]
theorem settleR_ok {P : Pr} {s : Sts} {g f : Int} (h : validS P s) (h2 : 0 ≤ g ∧ g < 6 ∧ 0 ≤ f ∧ f ≤ 4096) (h3 : g < s.cnt) : settleR P s g f = (setG s g.toNat (settleG word.apF (fnAt P (goAt s g).fn).code f.toNat (goAt s g)), 0) := by
  unfold settleR
  rw [if_pos h, if_pos h2, if_pos h3]
theorem goAt_wf {s : Sts} (hs : s.wf) {g : Int} (h1 : g.toNat < 6) : s.gos[g.toNat]? = some (goAt s g) ∧ goAt s g ∈ s.gos ∧ (goAt s g).wf := by
  obtain ⟨x, hx, hm⟩ := get_lt s.gos g.toNat (by rw [hs.lg]; exact h1)
  have e : goAt s g = x := go_getD hx
  rw [e]
  exact ⟨hx, hm, hs.ag x hm⟩
theorem settleR_wf {P : Pr} {s : Sts} (hs : s.wf) (hi : PrI P) {g f : Int} {x : Sts} {e : Int} (he : (x, e) = settleR P s g f) : x.wf := by
  unfold settleR at he
  split at he
  · rename_i hv
    split at he
    · rename_i h2
      split at he
      · rename_i h3
        obtain ⟨rfl, _⟩ := Prod.mk.inj he
        have h4 := goAt_wf hs (g := g) (by omega)
        exact setG_wf hs _ (settleG_stands hapF hv.r hi h4.2.2 (hv.g g.toNat (by omega)) f.toNat).2.1
      · obtain ⟨rfl, _⟩ := Prod.mk.inj he
        exact zeroS_wf
    · obtain ⟨rfl, _⟩ := Prod.mk.inj he
      exact zeroS_wf
  · split at he
    · obtain ⟨rfl, _⟩ := Prod.mk.inj he
      exact zeroS_wf
    · obtain ⟨rfl, _⟩ := Prod.mk.inj he
      exact zeroS_wf
/-- All blocks but one are as they were. -/
def Oth (W : World) (B : Nat) (w' : World) : Prop := ∀ b, b < W.heap.size → b ≠ B → w'.heap[b]? = W.heap[b]?
theorem cell_keepS {w w' : World} {b o : Nat} {u : Value} (h : w.cell? ⟨b, o, none⟩ = some u) (hk : w'.heap[b]? = w.heap[b]?) : w'.cell? ⟨b, o, none⟩ = some u := (World.cell?_of_block (a := ⟨b, o, none⟩) hk).trans h
theorem Oth.cell {W w' : World} {B b o : Nat} {u : Value} (h : Oth W B w') (hc : W.cell? ⟨b, o, none⟩ = some u) (hb : b < W.heap.size) (hne : b ≠ B) : w'.cell? ⟨b, o, none⟩ = some u := cell_keepS hc (h b hb hne)
theorem oth_drew (W : World) (B : Nat) : Oth W B W.drew := fun _ _ _ => rfl
theorem Oth.below {W w' w2 : World} {B : Nat} (h : Oth W B w') (hs : W.heap.size ≤ w'.heap.size) (hb : Below w'.heap.size w' w2) : Oth W B w2 := fun b h1 h2 => (hb.block b (by omega)).trans (h b h1 h2)
section
variable {P : Program} {ops : Array Oper} {Q : Exit → Act → World → Prop} {S : World → Prop} {fuel : Nat} {listed : Array Bool} {a : Act} {w : World}
theorem reg_call3 {i : Nat} {o : Oper} (hr : Region.ready .any ops listed = [i]) (ho : ops[i]? = some o) (hw : Region.wanted o (yielded ops a.tmps) = true) (f : FuncId) (x y z : Operand) (t u q : TypeId)
    (hc0 : o.op = .call { callee := .value (.func f), args := #[x, y, z], argTypes := #[t, u, q] }) (v v2 v3 : Value) (hx : a.eval x = v) (hy : a.eval y = v2) (hz : a.eval z = v3) (hcf : (callFunc f #[v, v2, v3]).run P w = .ok (.enter f #[v, v2, v3]) w) (R : Ending → World → Prop) (hc : Calls P f #[v, v2, v3] w R)
    (hK : ∀ e w', R e w' → ∃ v, e = .returned v ∧ S w' ∧ (S w' → wpAnyH P .any ops Q S fuel (listed.setIfInBounds i true) (a.put o.dst v) w')) :
    wpAnyH P .any ops Q S (fuel + 1) listed a w := reg_call hr ho hw f #[x, y, z] #[t, u, q] hc0 #[v, v2, v3] (by simp [hx, hy, hz]) hcf R hc hK
end
/-- Where all lies while a goroutine is settled. -/
structure SeM (w wr : World) (M : MPr) (s : Sts) : Prop where
  b : Below w.heap.size w wr
  p : BoxP wr w.heap.size M
  st : InS wr (w.heap.size + 1) s
  z : InS wr (w.heap.size + 1 + 1) zeroS
theorem SeM.later {w wr w' : World} {M : MPr} {s : Sts} (h : SeM w wr M s) (hb : Below wr.heap.size wr w') : SeM w w' M s := ⟨bthen h.b hb, h.p.later hb, h.st.later hb, h.z.later hb⟩
theorem sem_new (w : World) (M : MPr) (s : Sts) : SeM w (((w.alloc (objP M)).alloc (objSt s)).alloc (objSt zeroS)) M s := by
  obtain ⟨h1, h2, h3⟩ := three_boxes w (objP M) (objSt s) (objSt zeroS)
  exact ⟨boxed3 _ _ _ _, ⟨cell_ofG h1 rfl, cell_ofG h1 rfl, cell_ofG h1 rfl, cell_ofG h1 rfl⟩, h2, h3⟩
set_option maxHeartbeats 4000000 in
theorem settle_any (M : MPr) (s : Sts) (hs : s.wf) (g f : Int) (w : World) (hM : M.lies w) (hF : prog.Forms w) (x : Sts) (e : Int) (he : Hid ((x, e) = settleR M.pr s g f)) :
    Calls Tryd.prog 14 #[M.val, s.val, .int .i64 g, .int .i64 f] w fun e' w' => e' = .returned (.tuple #[x.val, .int .i64 e]) ∧ Below w.heap.size w w' := by
  have hE := sem_new w M s
  have hEH : Hid (SeM w (((w.alloc (objP M)).alloc (objSt s)).alloc (objSt zeroS)) M s) := hE
  have hMH : Hid (M.lies w) := hM
  have hFH : Hid (prog.Forms w) := hF
  have hsH : Hid s.wf := hs
  have hinS : Hid ((Tryd.prog.info? 38).map (·.size) = some s.cells.toArray.size) := infoS hs
  have huS : Hid (Tryd.prog.underlying 38 = _) := Tryd.underlying38
  have hug : Hid (Tryd.prog.underlying 35 = _) := Tryd.underlying35
  clear hM hF hs hE
  go_enter Tryd.func14, Tryd.ntmps14
  go_upto_region 1 with (refine wpList_alloc_big rfl 38 rfl zv_S ?_)
  try simp only [Act.put, List.setIfInBounds_toArray, List.set_cons_zero, List.set_cons_succ]
  generalize ((w.alloc (objP M)).alloc (objSt s)).alloc (objSt zeroS) = W at *
  obtain ⟨p0, p1, p2, p3⟩ := hEH.out.p
  have hSV := hEH.out.st
  by_cases hv : validS M.pr s
  rotate_left
  · have xV := valid_any M s hsH.out W (hMH.out.later hEH.out.b) (hFH.out.later hEH.out.b) false ⟨fun q => (by cases q), fun q => absurd q hv⟩
    obtain ⟨er, hr⟩ : ∃ er : Int, Hid (er = if (chk insP M.pr).1 = 0 then 4 else 3) := ⟨_, rfl⟩
    have cW : ∀ V, Below W.heap.size W V → Calls Tryd.prog 24 #[M.val] V fun e' w' => e' = .returned (.int .i64 er) ∧ Below V.heap.size V w' := fun V hV => wrong_any M V (hMH.out.later (bthen hEH.out.b hV)) (hFH.out.later (bthen hEH.out.b hV)) er hr
    obtain ⟨rfl, rfl⟩ : x = zeroS ∧ e = er := by have e1 := he.out; rw [settleR_unvalid hv, ← hr.out] at e1; simpa using e1
    clear he
    clear hv hr
    go_wp2_with (first
      | (refine wpList_load_row rfl 38 _ rfl (w.heap.size + 1) rfl _ _ _ _ hSV huS.out rfl hinS.out ?_)
      | (go_at_call 16; (with_reducible refine xV.mono ?_); rintro e2 w2 ⟨rfl, hb2⟩; (have hU : Hid (SeM w w2 M s) := hEH.out.later hb2); clear p0 p1 p2 p3; obtain ⟨p0, p1, p2, p3⟩ := hU.out.p; (have xW := cW w2 hb2))
      | (refine wpList_bld rfl 38 _ rfl #[] rfl zeroS.val bld_S0 ?_)
      | (go_at_call 24; (with_reducible refine xW.mono ?_); rintro e3 w3 ⟨rfl, hb3⟩; (have hU3 : Hid (SeM w w3 M s) := hU.out.later hb3))
      | (refine wpList_store_row rfl 38 _ _ rfl (w.heap.size + 1 + 1) zeroS.cells.toArray rfl rfl _ _ hU3.out.z (infoS zeroS_wf) rfl (oneS zeroS) ?_))
    exact bodyPost_ret (results_st Tryd.results14 _ _ (w.heap.size + 1 + 1) zeroS zeroS_wf _ rfl rfl (hU3.out.z.put _)) rfl ⟨rfl, below_setRowG hU3.out.b (by omega) _⟩
  have xV := valid_any M s hsH.out W (hMH.out.later hEH.out.b) (hFH.out.later hEH.out.b) true ⟨fun _ => hv, fun _ => rfl⟩
  have hvH : Hid (validS M.pr s) := hv
  clear hv
  go_upto_region 3 with (first
    | (refine wpList_load_row rfl 38 _ rfl (w.heap.size + 1) rfl _ _ _ _ hSV huS.out rfl hinS.out ?_)
    | (go_at_call 16; (with_reducible refine xV.mono ?_); rintro e2 w2 ⟨rfl, hb2⟩; (have hU : Hid (SeM w w2 M s) := hEH.out.later hb2); clear p0 p1 p2 p3))
  clear xV hEH hSV hb2
  by_cases g0 : g < 0
  · obtain ⟨rfl, rfl⟩ : x = zeroS ∧ e = 1 := by have e1 := he.out; rw [settleR_arg hvH.out (fun q => by omega)] at e1; simpa using e1
    clear he
    have d0 : decide (g < 0) = true := decide_eq_true g0
    go_wp2_with (first
      | (refine wpList_bld rfl 38 _ rfl #[] rfl zeroS.val bld_S0 ?_)
      | (refine wpList_store_row rfl 38 _ _ rfl (w.heap.size + 1 + 1) zeroS.cells.toArray rfl rfl _ _ hU.out.z (infoS zeroS_wf) rfl (oneS zeroS) ?_))
    exact bodyPost_ret (results_st Tryd.results14 _ _ (w.heap.size + 1 + 1) zeroS zeroS_wf _ rfl rfl (hU.out.z.put _)) rfl ⟨rfl, below_setRowG hU.out.b (by omega) _⟩
  by_cases g1 : 6 ≤ g
  · obtain ⟨rfl, rfl⟩ : x = zeroS ∧ e = 1 := by have e1 := he.out; rw [settleR_arg hvH.out (fun q => by omega)] at e1; simpa using e1
    clear he
    have d0 : decide (g < 0) = false := decide_eq_false g0
    have d1 : decide (6 ≤ g) = true := decide_eq_true g1
    go_wp2_with (first
      | (refine wpList_bld rfl 38 _ rfl #[] rfl zeroS.val bld_S0 ?_)
      | (refine wpList_store_row rfl 38 _ _ rfl (w.heap.size + 1 + 1) zeroS.cells.toArray rfl rfl _ _ hU.out.z (infoS zeroS_wf) rfl (oneS zeroS) ?_))
    exact bodyPost_ret (results_st Tryd.results14 _ _ (w.heap.size + 1 + 1) zeroS zeroS_wf _ rfl rfl (hU.out.z.put _)) rfl ⟨rfl, below_setRowG hU.out.b (by omega) _⟩
  have d0 : decide (g < 0) = false := decide_eq_false g0
  have d1 : decide (6 ≤ g) = false := decide_eq_false g1
  by_cases hf : 0 ≤ f ∧ f ≤ 4096
  rotate_left
  · obtain ⟨rfl, rfl⟩ : x = zeroS ∧ e = 1 := by have e1 := he.out; rw [settleR_arg hvH.out (fun q => hf q.2.2)] at e1; simpa using e1
    clear he
    have xE := enough_any f false ⟨fun q => (by cases q), fun q => absurd q hf⟩ w2
    go_wp2_with (first
      | (go_at_call 20; (with_reducible refine xE.mono ?_); rintro e3 w4 ⟨rfl, hw4⟩; replace hw4 := hw4.symm; subst hw4)
      | (refine wpList_bld rfl 38 _ rfl #[] rfl zeroS.val bld_S0 ?_)
      | (refine wpList_store_row rfl 38 _ _ rfl (w.heap.size + 1 + 1) zeroS.cells.toArray rfl rfl _ _ hU.out.z (infoS zeroS_wf) rfl (oneS zeroS) ?_))
    exact bodyPost_ret (results_st Tryd.results14 _ _ (w.heap.size + 1 + 1) zeroS zeroS_wf _ rfl rfl (hU.out.z.put _)) rfl ⟨rfl, below_setRowG hU.out.b (by omega) _⟩
  have xE := enough_any f true ⟨fun _ => hf, fun _ => rfl⟩ w2
  have hga : 0 ≤ g ∧ g < 6 ∧ 0 ≤ f ∧ f ≤ 4096 := by omega
  have zc := hU.out.st.cnt hsH.out
  by_cases g2 : s.cnt ≤ g
  · obtain ⟨rfl, rfl⟩ : x = zeroS ∧ e = 9 := by have e1 := he.out; rw [settleR_none hvH.out hga (by omega)] at e1; simpa using e1
    clear he
    have d4 : decide (s.cnt ≤ g) = true := decide_eq_true g2
    go_wp2_with (first
      | (go_at_call 20; (with_reducible refine xE.mono ?_); rintro e3 w4 ⟨rfl, hw4⟩; replace hw4 := hw4.symm; subst hw4)
      | (refine wpList_bld rfl 38 _ rfl #[] rfl zeroS.val bld_S0 ?_)
      | (refine wpList_store_row rfl 38 _ _ rfl (w.heap.size + 1 + 1) zeroS.cells.toArray rfl rfl _ _ hU.out.z (infoS zeroS_wf) rfl (oneS zeroS) ?_))
    exact bodyPost_ret (results_st Tryd.results14 _ _ (w.heap.size + 1 + 1) zeroS zeroS_wf _ rfl rfl (hU.out.z.put _)) rfl ⟨rfl, below_setRowG hU.out.b (by omega) _⟩
  have d4 : decide (s.cnt ≤ g) = false := decide_eq_false g2
  have h5 := goAt_wf hsH.out (g := g) (by omega)
  have h6 := settleG_stands hapF hvH.out.r (prI_of hMH.out) h5.2.2 (hvH.out.g g.toNat (by omega)) f.toNat
  have hst0 : stands M.pr (goAt s g) := hvH.out.g g.toNat (by omega)
  obtain ⟨rfl, rfl⟩ : x = setG s g.toNat (settleG word.apF (fnAt M.pr (goAt s g).fn).code f.toNat (goAt s g)) ∧ e = 0 := by have e1 := he.out; rw [settleR_ok hvH.out hga (by omega)] at e1; simpa using e1
  have hXw : Hid (settleG word.apF (fnAt M.pr (goAt s g).fn).code f.toNat (goAt s g)).wf := h6.2.1
  have hokH : Hid ((chk insP M.pr).1 = 0) := hvH.out.r
  have hgw : Hid (goAt s g).wf := h5.2.2
  have hgI : Hid (s.gos[g.toNat]? = some (goAt s g)) := h5.1
  have hgaH : Hid _ := hga
  have hfH : Hid _ := hf
  have hpg := ixg (w.heap.size + 1) g (by omega) (by omega)
  obtain ⟨F, hFi, hFm⟩ : ∃ F, M.fns[(goAt s g).fn.toNat]? = some F ∧ F ∈ M.fns := get_lt _ _ (by have h0 := hst0.1; have := hst0.2.1; have h2 : ((M.fns.map MFn.fn).length : Int) = M.fns.length := (by rw [List.length_map]); have h3 : (goAt s g).fn < ((M.fns.map MFn.fn).length : Int) := this; omega)
  have eF : Hid (fnAt M.pr (goAt s g).fn = F.fn) := fnAt_M hFi
  have hstH : Hid (stands M.pr (goAt s g)) := hst0
  have hgr : Hid (w2.rangeAt (w.heap.size + 1) (48 + g.toNat * 12) (goAt s g).cells) := by
    obtain ⟨b, off, ha, _, hc⟩ := ((hU.out.st.gos hsH.out).row (i := g.toNat) (row := (goAt s g).cells) (by rw [List.getElem?_map, h5.1]; rfl))
    simp only [Option.some.injEq, Addr.mk.injEq, and_true] at ha
    obtain ⟨rfl, rfl⟩ := ha
    intro j u hj
    rw [Nat.add_assoc]
    exact hc j u hj
  have hinf : Hid ((Tryd.prog.info? 35).map (·.size) = some (goAt s g).cells.length) := by have := infoGw h5.2.2; rwa [List.size_toArray] at this
  have hinfA : Hid ((Tryd.prog.info? 35).map (·.size) = some (goAt s g).cells.toArray.size) := infoGw h5.2.2
  clear he h5 h6 hst0 g0 g1 g2 hga hf
  have hone := oneG (goAt s g)
  obtain ⟨ZI, hZ1, hZ2, _⟩ := zero_big (P := Tryd.prog) (t := 35) (n := 12) (by kernel_rfl)
  have hsz : Hid (ZI.size = (goAt s g).cells.toArray.size) := by show _ = _; rw [hZ2, List.size_toArray, Gr.len hgw.out]
  have hzi : (w2.alloc (.cells ZI 35)).heap[w2.heap.size]? = some (.cells ZI 35) := heap_alloc_new w2 _
  have hbw : Below w2.heap.size w2 ((w2.alloc (.cells ZI 35)).setRow w2.heap.size (goAt s g).cells.toArray) := below_setRowG (boxed _ _) (Nat.le_refl _) _
  have hV : Hid (SeM w ((w2.alloc (.cells ZI 35)).setRow w2.heap.size (goAt s g).cells.toArray) M s) := hU.out.later hbw
  have hGb : InG ((w2.alloc (.cells ZI 35)).setRow w2.heap.size (goAt s g).cells.toArray) w2.heap.size (goAt s g) := setRow_heap _ _ _ _ _ _ hzi
  have hIB : Hid (w.heap.size + 1 + 1 < w2.heap.size) := hU.out.z.lt
  clear hbw hZ2
  go_upto_region 8 with (first
    | (go_at_call 20; (with_reducible refine xE.mono ?_); rintro e3 w4 ⟨rfl, hw4⟩; replace hw4 := hw4.symm; subst hw4)
    | (refine wpList_load_mid rfl 35 _ rfl (w.heap.size + 1) (48 + g.toNat * 12) rfl (goAt s g).cells _ hgr.out hug.out rfl hinf.out ?_)
    | (refine wpList_alloc_big rfl 35 rfl hZ1 ?_)
    | (refine wpList_store_row rfl 35 _ _ rfl w2.heap.size (goAt s g).cells.toArray rfl rfl _ _ hzi hinfA.out hsz.out hone ?_))
  try simp only [Act.put, List.setIfInBounds_toArray, List.set_cons_zero, List.set_cons_succ]
  generalize (w2.alloc (.cells ZI 35)).setRow w2.heap.size (goAt s g).cells.toArray = V at *
  generalize w2.heap.size = IB at *
  clear hzi hZ1 hsz hone hinf hinfA zc hgr hU xE
  have hwk : Hid (GrIn F.code (wake (goAt s g)) ∧ (wake (goAt s g)).rg.length = 8) := by
    have e2 := eF.out
    obtain ⟨_, _, q0, q1, _⟩ := hstH.out
    rw [e2] at q1
    have hw := hgw.out
    show GrIn F.code (wake (goAt s g)) ∧ _
    unfold wake
    split
    · exact ⟨⟨q0, q1, hw.2.2.2.2.1, hw.2.2.2.2.2⟩, hw.2.2.2.2.1⟩
    · exact ⟨⟨q0, q1, hw.2.2.2.2.1, hw.2.2.2.2.2⟩, hw.2.2.2.2.1⟩
  have hXe : Hid (settleG word.apF (fnAt M.pr (goAt s g).fn).code f.toNat (goAt s g) = runG word.apF lcB F.code f.toNat (wake (goAt s g))) := by show _ = _; rw [eF.out]; rfl
  obtain ⟨X, hXd⟩ : ∃ X, Hid (settleG word.apF (fnAt M.pr (goAt s g).fn).code f.toNat (goAt s g) = X) := ⟨_, rfl⟩
  have hXw2 : Hid X.wf := by show X.wf; rw [← hXd.out]; exact hXw.out
  have hXe2 : Hid (X = runG word.apF lcB F.code f.toNat (wake (goAt s g))) := by show _ = _; rw [← hXd.out]; exact hXe.out
  clear hXw hXe
  have hXw := hXw2
  have hXe := hXe2
  clear hXw2 hXe2
  have hfn0 : Hid (0 ≤ (goAt s g).fn) := hstH.out.1
  have hwfn : Hid ((wake (goAt s g)).fn = (goAt s g).fn) := wake_fn _
  have key : ∀ (V' : World) (SL9 SL40 SL42 : Value), True := fun _ _ _ _ => trivial
  clear key
  by_cases s5 : (goAt s g).st = 5
  · have c0 := hGb.c0
    rw [s5] at c0
    have hwe : wake (goAt s g) = { goAt s g with st := 1 } := by rw [wake, if_pos s5]
    have hfz := hGb.fz 0
    have hnx : Hid (∀ W', W' = V.setCell ⟨IB, 0, none⟩ (.int .i64 1) → InG W' IB (wake (goAt s g)) ∧ SeM w W' M s) := fun W' hW' => by
      have hIB' := hIB.out
      rw [hW', hwe]
      exact ⟨hGb.setS 1, hV.out.b.setCell (p := ⟨IB, 0, none⟩) (by show w.heap.size ≤ IB; omega) _, hV.out.p.set (by omega), (Below.heap_setCell _ _ _ _ (by show _ ≠ IB; omega)).trans hV.out.st, (Below.heap_setCell _ _ _ _ (by show _ ≠ IB; omega)).trans hV.out.z⟩
    clear hwe s5
    go_upto_region 10 with (refine wpList_puti rfl 3 _ _ rfl ⟨IB, 0, none⟩ rfl 1 rfl (by kernel_rfl) _ c0 hfz ?_; intro W1 hW1; (have hV2 := hnx.out W1 hW1); clear hW1)
    clear hV hGb hnx c0 hfz
    obtain ⟨hGb, hVp⟩ := hV2
    have hV : Hid (SeM w W1 M s) := hVp
    clear hVp
    obtain ⟨fb, fo, hfix, hfb, fc0, fc1, fc2, fc3⟩ := fn_ix hMH.out.2.2.1 (goAt s g).fn.toNat F hFi
    rw [show (((goAt s g).fn.toNat : Nat) : Int) = (goAt s g).fn by have := hfn0.out; omega] at hfix
    have hlF := hMH.out.2.2.2.2.2.2 F hFm
    have hgC := good_of hokH.out F.fn (List.mem_map.mpr ⟨F, hFm, rfl⟩)
    have xS : ∀ V', Below w.heap.size w V' → Calls Tryd.prog 21 #[.slice F.ca F.code.length F.ccap, (wake (goAt s g)).val, .int .i64 f] V' fun e w' => e = .returned X.val ∧ Below V'.heap.size V' w' := fun V' hb' => by
      have hlF' := (hMH.out.later hb').2.2.2.2.2.2 F hFm
      have := run_any F.code F.ca F.ccap (wake (goAt s g)) f.toNat (rg := F.regs) hgC hlF'.2.2.1 hwk.out.1 (by have := hfH.out; omega) V' hlF'.1 (hFH.out.later hb')
      rw [show ((f.toNat : Nat) : Int) = f by have := hfH.out; omega] at this
      rw [hXe.out]
      exact this
    have hH : Oth W1 (w.heap.size + 1) W1.drew := oth_drew _ _
    have hPc := hV.out.p
    have hIBl := hGb.lt
    have hwl : w.heap.size + 1 + 1 < W1.heap.size := hV.out.z.lt
    have hfc2 : W1.cell? ⟨fb, fo + 2, none⟩ = some (.slice F.ca F.code.length F.ccap) := cell_later hV.out.b fc2
    have c1 : W1.cell? ⟨IB, 1, none⟩ = some (.int .i64 (goAt s g).fn) := by have := hGb.c1; rwa [hwfn.out] at this
    have hIBn : IB ≠ w.heap.size + 1 := by have := hIB.out; omega
    have hrI : W1.rangeAt IB 0 (wake (goAt s g)).cells := range_of hGb [] (wake (goAt s g)).cells [] (by simp) 0 rfl
    have hinW : (Tryd.prog.info? 35).map (·.size) = some (wake (goAt s g)).cells.length := by have := infoG hwk.out.2; rwa [List.size_toArray] at this
    refine wp_region_held_drew (S := Oth W1 (w.heap.size + 1)) (by kernel_rfl) hH (fun _ => ?_)
    refine reg_move (i := 0) rfl (by kernel_rfl) (by kernel_rfl) (by kernel_rfl) (fun _ _ _ _ h => h) rfl (.int .i64 g) (fun _ => by kernel_rfl) hH ?_
    simp only [Act.put, List.getElem_toArray, List.getElem_cons_succ, List.getElem_cons_zero, List.setIfInBounds_toArray, List.set_cons_zero, List.set_cons_succ]
    refine reg_move (i := 1) rfl (by kernel_rfl) (by kernel_rfl) (by kernel_rfl) (fun _ _ _ _ h => h) rfl (.pointer (some ⟨w.heap.size, 3, none⟩)) (fun _ => by kernel_rfl) hH ?_
    simp only [Act.put, List.getElem_toArray, List.getElem_cons_succ, List.getElem_cons_zero, List.setIfInBounds_toArray, List.set_cons_zero, List.set_cons_succ]
    refine reg_load1 (i := 2) rfl (by kernel_rfl) (by kernel_rfl) (by kernel_rfl) (fun _ _ _ _ h => h) rfl 24 _ rfl ⟨w.heap.size, 3, none⟩ rfl _ Tryd.underlying24 rfl (.slice M.fa M.fns.length M.fcap) (fun w' h' => h'.cell hPc.2.2.2 (by omega) (by omega)) hH ?_
    simp only [Act.put, List.getElem_toArray, List.getElem_cons_succ, List.getElem_cons_zero, List.setIfInBounds_toArray, List.set_cons_zero, List.set_cons_succ]
    refine reg_move (i := 3) rfl (by kernel_rfl) (by kernel_rfl) (by kernel_rfl) (fun _ _ _ _ h => h) rfl (.pointer (some ⟨IB, 1, none⟩)) (fun _ => by kernel_rfl) hH ?_
    simp only [Act.put, List.getElem_toArray, List.getElem_cons_succ, List.getElem_cons_zero, List.setIfInBounds_toArray, List.set_cons_zero, List.set_cons_succ]
    refine reg_load1 (i := 4) rfl (by kernel_rfl) (by kernel_rfl) (by kernel_rfl) (fun _ _ _ _ h => h) rfl 3 _ rfl ⟨IB, 1, none⟩ rfl _ Tryd.underlying3 rfl (.int .i64 (goAt s g).fn) (fun w' h' => h'.cell c1 hIBl hIBn) hH ?_
    simp only [Act.put, List.getElem_toArray, List.getElem_cons_succ, List.getElem_cons_zero, List.setIfInBounds_toArray, List.set_cons_zero, List.set_cons_succ]
    refine reg_move (i := 5) rfl (by kernel_rfl) (by kernel_rfl) (by kernel_rfl) (fun _ _ _ _ h => h) rfl (.pointer (some ⟨fb, fo, none⟩)) (fun wx => by unfold execOp; exact run_valueS (hfix wx)) hH ?_
    simp only [Act.put, List.getElem_toArray, List.getElem_cons_succ, List.getElem_cons_zero, List.setIfInBounds_toArray, List.set_cons_zero, List.set_cons_succ]
    refine reg_move (i := 6) rfl (by kernel_rfl) (by kernel_rfl) (by kernel_rfl) (fun _ _ _ _ h => h) rfl (.pointer (some ⟨fb, fo + 2, none⟩)) (fun _ => by kernel_rfl) hH ?_
    simp only [Act.put, List.getElem_toArray, List.getElem_cons_succ, List.getElem_cons_zero, List.setIfInBounds_toArray, List.set_cons_zero, List.set_cons_succ]
    refine reg_load1 (i := 7) rfl (by kernel_rfl) (by kernel_rfl) (by kernel_rfl) (fun _ _ _ _ h => h) rfl 55 _ rfl ⟨fb, fo + 2, none⟩ rfl _ Tryd.underlying55 rfl (.slice F.ca F.code.length F.ccap) (fun w' h' => h'.cell hfc2 (by omega) (by omega)) hH ?_
    simp only [Act.put, List.getElem_toArray, List.getElem_cons_succ, List.getElem_cons_zero, List.setIfInBounds_toArray, List.set_cons_zero, List.set_cons_succ]
    refine reg_load (i := 8) rfl (by kernel_rfl) (by kernel_rfl) (by kernel_rfl) (fun _ _ _ _ h => h) rfl 35 _ rfl IB 0 rfl (wake (goAt s g)).cells _ (fun w' h' => fun q v hv => h'.cell (hrI q v hv) hIBl hIBn) Tryd.underlying35 rfl hinW hH ?_
    simp only [Act.put, List.getElem_toArray, List.getElem_cons_succ, List.getElem_cons_zero, List.setIfInBounds_toArray, List.set_cons_zero, List.set_cons_succ]
    refine reg_move (i := 9) rfl (by kernel_rfl) (by kernel_rfl) (by kernel_rfl) (fun _ _ _ _ h => h) rfl (.int .i64 f) (fun _ => by kernel_rfl) hH ?_
    simp only [Act.put, List.getElem_toArray, List.getElem_cons_succ, List.getElem_cons_zero, List.setIfInBounds_toArray, List.set_cons_zero, List.set_cons_succ]
    refine reg_move (i := 11) rfl (by kernel_rfl) (by kernel_rfl) (by kernel_rfl) (fun _ _ _ _ h => h) rfl (.pointer (some ⟨w.heap.size + 1, 48, none⟩)) (fun _ => by kernel_rfl) hH ?_
    simp only [Act.put, List.getElem_toArray, List.getElem_cons_succ, List.getElem_cons_zero, List.setIfInBounds_toArray, List.set_cons_zero, List.set_cons_succ]
    have xS' := xS W1.drew (hV.out.later (bey_drew _)).b
    refine reg_call3 (i := 10) (by kernel_rfl) rfl rfl 21 _ _ _ _ _ _ rfl (.slice F.ca F.code.length F.ccap) (wake (goAt s g)).val (.int .i64 f) rfl rfl rfl (cf_fn Tryd.func21 (by kernel_rfl) (by kernel_rfl) _ _) _ xS' ?_
    rintro e4 w4 ⟨rfl, hb4⟩
    have hO4 : Oth W1 (w.heap.size + 1) w4 := hH.below (Nat.le_refl _) hb4
    refine ⟨_, rfl, hO4, fun _ => ?_⟩
    simp only [Act.put, List.getElem_toArray, List.getElem_cons_succ, List.getElem_cons_zero, List.setIfInBounds_toArray, List.set_cons_zero, List.set_cons_succ]
    have hV4 : SeM w w4 M s := (hV.out.later (bey_drew _)).later hb4
    refine reg_move (i := 12) rfl (by kernel_rfl) (by kernel_rfl) (by kernel_rfl) (fun _ _ _ _ h => h) rfl (.pointer (some ⟨w.heap.size + 1, 48 + g.toNat * 12, none⟩)) (fun wx => by unfold execOp; exact run_valueS (hpg wx)) hO4 ?_
    simp only [Act.put, List.getElem_toArray, List.getElem_cons_succ, List.getElem_cons_zero, List.setIfInBounds_toArray, List.set_cons_zero, List.set_cons_succ]
    refine reg_one (i := 13) (by kernel_rfl) rfl rfl (wpList_putG rfl _ _ rfl (w.heap.size + 1) g.toNat s hsH.out (by have := hgaH.out; omega) X hXw.out rfl rfl hV4.st ?_)
    intro W5 hI5 hB5 hO5
    refine wpList_nil (And.intro (fun b h1 h2 => (hO5 b h2).trans (hO4 b h1 h2)) fun _ => ?_)
    simp only [Act.put, List.getElem_toArray, List.getElem_cons_succ, List.getElem_cons_zero, List.setIfInBounds_toArray, List.set_cons_zero, List.set_cons_succ]
    refine wpAnyH_done (by kernel_rfl) ?_ _
    have hz5 : InS W5 (w.heap.size + 1 + 1) zeroS := (hO5 _ (by omega)).trans hV4.z
    have hbE : Hid (Below w.heap.size w W5) := hB5 _ _ (by omega) hV4.b
    have hwfH : Hid (setG s g.toNat X).wf := setG_wf hsH.out _ hXw.out
    clear xS xS' hfix hB5 hO5 hb4 hO4 hV4 hH hpg fc0 fc1 fc2 fc3 hfc2 c1 hrI hPc hGb
    go_wp2_with (first
      | (refine wpList_load_row rfl 38 _ rfl (w.heap.size + 1) rfl _ _ _ _ hI5 huS.out rfl (infoS hwfH.out) ?_)
      | (refine wpList_store_row rfl 38 _ _ rfl (w.heap.size + 1 + 1) (Sts.cells (setG s g.toNat X)).toArray rfl rfl _ _ hz5 (infoS hwfH.out) (sizeSS zeroS_wf hwfH.out) (oneS _) ?_))
    exact bodyPost_ret (results_st Tryd.results14 _ _ (w.heap.size + 1 + 1) (setG s g.toNat X) hwfH.out (.int .i64 0) rfl rfl (hz5.put _)) rfl ⟨by rw [hXd.out], below_setRowG hbE.out (by omega) _⟩
  · have c0 := hGb.c0
    have hwe : wake (goAt s g) = goAt s g := wake_not s5
    have d5 : ((goAt s g).st == 5) = false := by simpa using s5
    rw [← hwe] at hGb
    clear hwe s5
    go_upto_region 10 with fail
    clear c0 d5
    obtain ⟨fb, fo, hfix, hfb, fc0, fc1, fc2, fc3⟩ := fn_ix hMH.out.2.2.1 (goAt s g).fn.toNat F hFi
    rw [show (((goAt s g).fn.toNat : Nat) : Int) = (goAt s g).fn by have := hfn0.out; omega] at hfix
    have hlF := hMH.out.2.2.2.2.2.2 F hFm
    have hgC := good_of hokH.out F.fn (List.mem_map.mpr ⟨F, hFm, rfl⟩)
    have xS : ∀ V', Below w.heap.size w V' → Calls Tryd.prog 21 #[.slice F.ca F.code.length F.ccap, (wake (goAt s g)).val, .int .i64 f] V' fun e w' => e = .returned X.val ∧ Below V'.heap.size V' w' := fun V' hb' => by
      have hlF' := (hMH.out.later hb').2.2.2.2.2.2 F hFm
      have := run_any F.code F.ca F.ccap (wake (goAt s g)) f.toNat (rg := F.regs) hgC hlF'.2.2.1 hwk.out.1 (by have := hfH.out; omega) V' hlF'.1 (hFH.out.later hb')
      rw [show ((f.toNat : Nat) : Int) = f by have := hfH.out; omega] at this
      rw [hXe.out]
      exact this
    have hH : Oth V (w.heap.size + 1) V.drew := oth_drew _ _
    have hPc := hV.out.p
    have hIBl := hGb.lt
    have hwl : w.heap.size + 1 + 1 < V.heap.size := hV.out.z.lt
    have hfc2 : V.cell? ⟨fb, fo + 2, none⟩ = some (.slice F.ca F.code.length F.ccap) := cell_later hV.out.b fc2
    have c1 : V.cell? ⟨IB, 1, none⟩ = some (.int .i64 (goAt s g).fn) := by have := hGb.c1; rwa [hwfn.out] at this
    have hIBn : IB ≠ w.heap.size + 1 := by have := hIB.out; omega
    have hrI : V.rangeAt IB 0 (wake (goAt s g)).cells := range_of hGb [] (wake (goAt s g)).cells [] (by simp) 0 rfl
    have hinW : (Tryd.prog.info? 35).map (·.size) = some (wake (goAt s g)).cells.length := by have := infoG hwk.out.2; rwa [List.size_toArray] at this
    refine wp_region_held_drew (S := Oth V (w.heap.size + 1)) (by kernel_rfl) hH (fun _ => ?_)
    refine reg_move (i := 0) rfl (by kernel_rfl) (by kernel_rfl) (by kernel_rfl) (fun _ _ _ _ h => h) rfl (.int .i64 g) (fun _ => by kernel_rfl) hH ?_
    simp only [Act.put, List.getElem_toArray, List.getElem_cons_succ, List.getElem_cons_zero, List.setIfInBounds_toArray, List.set_cons_zero, List.set_cons_succ]
    refine reg_move (i := 1) rfl (by kernel_rfl) (by kernel_rfl) (by kernel_rfl) (fun _ _ _ _ h => h) rfl (.pointer (some ⟨w.heap.size, 3, none⟩)) (fun _ => by kernel_rfl) hH ?_
    simp only [Act.put, List.getElem_toArray, List.getElem_cons_succ, List.getElem_cons_zero, List.setIfInBounds_toArray, List.set_cons_zero, List.set_cons_succ]
    refine reg_load1 (i := 2) rfl (by kernel_rfl) (by kernel_rfl) (by kernel_rfl) (fun _ _ _ _ h => h) rfl 24 _ rfl ⟨w.heap.size, 3, none⟩ rfl _ Tryd.underlying24 rfl (.slice M.fa M.fns.length M.fcap) (fun w' h' => h'.cell hPc.2.2.2 (by omega) (by omega)) hH ?_
    simp only [Act.put, List.getElem_toArray, List.getElem_cons_succ, List.getElem_cons_zero, List.setIfInBounds_toArray, List.set_cons_zero, List.set_cons_succ]
    refine reg_move (i := 3) rfl (by kernel_rfl) (by kernel_rfl) (by kernel_rfl) (fun _ _ _ _ h => h) rfl (.pointer (some ⟨IB, 1, none⟩)) (fun _ => by kernel_rfl) hH ?_
    simp only [Act.put, List.getElem_toArray, List.getElem_cons_succ, List.getElem_cons_zero, List.setIfInBounds_toArray, List.set_cons_zero, List.set_cons_succ]
    refine reg_load1 (i := 4) rfl (by kernel_rfl) (by kernel_rfl) (by kernel_rfl) (fun _ _ _ _ h => h) rfl 3 _ rfl ⟨IB, 1, none⟩ rfl _ Tryd.underlying3 rfl (.int .i64 (goAt s g).fn) (fun w' h' => h'.cell c1 hIBl hIBn) hH ?_
    simp only [Act.put, List.getElem_toArray, List.getElem_cons_succ, List.getElem_cons_zero, List.setIfInBounds_toArray, List.set_cons_zero, List.set_cons_succ]
    refine reg_move (i := 5) rfl (by kernel_rfl) (by kernel_rfl) (by kernel_rfl) (fun _ _ _ _ h => h) rfl (.pointer (some ⟨fb, fo, none⟩)) (fun wx => by unfold execOp; exact run_valueS (hfix wx)) hH ?_
    simp only [Act.put, List.getElem_toArray, List.getElem_cons_succ, List.getElem_cons_zero, List.setIfInBounds_toArray, List.set_cons_zero, List.set_cons_succ]
    refine reg_move (i := 6) rfl (by kernel_rfl) (by kernel_rfl) (by kernel_rfl) (fun _ _ _ _ h => h) rfl (.pointer (some ⟨fb, fo + 2, none⟩)) (fun _ => by kernel_rfl) hH ?_
    simp only [Act.put, List.getElem_toArray, List.getElem_cons_succ, List.getElem_cons_zero, List.setIfInBounds_toArray, List.set_cons_zero, List.set_cons_succ]
    refine reg_load1 (i := 7) rfl (by kernel_rfl) (by kernel_rfl) (by kernel_rfl) (fun _ _ _ _ h => h) rfl 55 _ rfl ⟨fb, fo + 2, none⟩ rfl _ Tryd.underlying55 rfl (.slice F.ca F.code.length F.ccap) (fun w' h' => h'.cell hfc2 (by omega) (by omega)) hH ?_
    simp only [Act.put, List.getElem_toArray, List.getElem_cons_succ, List.getElem_cons_zero, List.setIfInBounds_toArray, List.set_cons_zero, List.set_cons_succ]
    refine reg_load (i := 8) rfl (by kernel_rfl) (by kernel_rfl) (by kernel_rfl) (fun _ _ _ _ h => h) rfl 35 _ rfl IB 0 rfl (wake (goAt s g)).cells _ (fun w' h' => fun q v hv => h'.cell (hrI q v hv) hIBl hIBn) Tryd.underlying35 rfl hinW hH ?_
    simp only [Act.put, List.getElem_toArray, List.getElem_cons_succ, List.getElem_cons_zero, List.setIfInBounds_toArray, List.set_cons_zero, List.set_cons_succ]
    refine reg_move (i := 9) rfl (by kernel_rfl) (by kernel_rfl) (by kernel_rfl) (fun _ _ _ _ h => h) rfl (.int .i64 f) (fun _ => by kernel_rfl) hH ?_
    simp only [Act.put, List.getElem_toArray, List.getElem_cons_succ, List.getElem_cons_zero, List.setIfInBounds_toArray, List.set_cons_zero, List.set_cons_succ]
    refine reg_move (i := 11) rfl (by kernel_rfl) (by kernel_rfl) (by kernel_rfl) (fun _ _ _ _ h => h) rfl (.pointer (some ⟨w.heap.size + 1, 48, none⟩)) (fun _ => by kernel_rfl) hH ?_
    simp only [Act.put, List.getElem_toArray, List.getElem_cons_succ, List.getElem_cons_zero, List.setIfInBounds_toArray, List.set_cons_zero, List.set_cons_succ]
    have xS' := xS V.drew (hV.out.later (bey_drew _)).b
    refine reg_call3 (i := 10) (by kernel_rfl) rfl rfl 21 _ _ _ _ _ _ rfl (.slice F.ca F.code.length F.ccap) (wake (goAt s g)).val (.int .i64 f) rfl rfl rfl (cf_fn Tryd.func21 (by kernel_rfl) (by kernel_rfl) _ _) _ xS' ?_
    rintro e4 w4 ⟨rfl, hb4⟩
    have hO4 : Oth V (w.heap.size + 1) w4 := hH.below (Nat.le_refl _) hb4
    refine ⟨_, rfl, hO4, fun _ => ?_⟩
    simp only [Act.put, List.getElem_toArray, List.getElem_cons_succ, List.getElem_cons_zero, List.setIfInBounds_toArray, List.set_cons_zero, List.set_cons_succ]
    have hV4 : SeM w w4 M s := (hV.out.later (bey_drew _)).later hb4
    refine reg_move (i := 12) rfl (by kernel_rfl) (by kernel_rfl) (by kernel_rfl) (fun _ _ _ _ h => h) rfl (.pointer (some ⟨w.heap.size + 1, 48 + g.toNat * 12, none⟩)) (fun wx => by unfold execOp; exact run_valueS (hpg wx)) hO4 ?_
    simp only [Act.put, List.getElem_toArray, List.getElem_cons_succ, List.getElem_cons_zero, List.setIfInBounds_toArray, List.set_cons_zero, List.set_cons_succ]
    refine reg_one (i := 13) (by kernel_rfl) rfl rfl (wpList_putG rfl _ _ rfl (w.heap.size + 1) g.toNat s hsH.out (by have := hgaH.out; omega) X hXw.out rfl rfl hV4.st ?_)
    intro W5 hI5 hB5 hO5
    refine wpList_nil (And.intro (fun b h1 h2 => (hO5 b h2).trans (hO4 b h1 h2)) fun _ => ?_)
    simp only [Act.put, List.getElem_toArray, List.getElem_cons_succ, List.getElem_cons_zero, List.setIfInBounds_toArray, List.set_cons_zero, List.set_cons_succ]
    refine wpAnyH_done (by kernel_rfl) ?_ _
    have hz5 : InS W5 (w.heap.size + 1 + 1) zeroS := (hO5 _ (by omega)).trans hV4.z
    have hbE : Hid (Below w.heap.size w W5) := hB5 _ _ (by omega) hV4.b
    have hwfH : Hid (setG s g.toNat X).wf := setG_wf hsH.out _ hXw.out
    clear xS xS' hfix hB5 hO5 hb4 hO4 hV4 hH hpg fc0 fc1 fc2 fc3 hfc2 c1 hrI hPc hGb
    go_wp2_with (first
      | (refine wpList_load_row rfl 38 _ rfl (w.heap.size + 1) rfl _ _ _ _ hI5 huS.out rfl (infoS hwfH.out) ?_)
      | (refine wpList_store_row rfl 38 _ _ rfl (w.heap.size + 1 + 1) (Sts.cells (setG s g.toNat X)).toArray rfl rfl _ _ hz5 (infoS hwfH.out) (sizeSS zeroS_wf hwfH.out) (oneS _) ?_))
    exact bodyPost_ret (results_st Tryd.results14 _ _ (w.heap.size + 1 + 1) (setG s g.toNat X) hwfH.out (.int .i64 0) rfl rfl (hz5.put _)) rfl ⟨by rw [hXd.out], below_setRowG hbE.out (by omega) _⟩
end Go.Proofs.YtjcmhaaohdmjpaaDoor.pg
/- The document's own Settle. -/
namespace Go.Proofs.YtjcmhaaohdmjpaaDoor.pg
open Go.ChangeShapes Go.WideShapes Go.ChangeAt Go.RowKit
set_option linter.unusedVariables false
set_option linter.unusedSimpArgs false
set_option maxRecDepth 100000
theorem setG_self {s : Sts} {g : Nat} {x : Gr} (h : s.gos[g]? = some x) : setG s g x = s := by
  unfold setG
  obtain ⟨hl, e⟩ := List.getElem?_eq_some_iff.mp h
  rw [← e, List.set_getElem_self]
set_option maxHeartbeats 4000000 in
theorem rsettle_any (M : MPr) (s : Sts) (hs : s.wf) (g f : Int) (w : World) (hM : M.lies w) (x : Sts) (e : Int) (he : Hid ((x, e) = settleR M.pr s g f)) :
    Calls Tryd.prog 15 #[M.val, s.val, .int .i64 g, .int .i64 f] w fun e' w' => e' = .returned (.tuple #[x.val, .int .i64 e]) ∧ Below w.heap.size w w' := by
  have hE := sem_new w M s
  have hEH : Hid (SeM w (((w.alloc (objP M)).alloc (objSt s)).alloc (objSt zeroS)) M s) := hE
  have hMH : Hid (M.lies w) := hM
  have hsH : Hid s.wf := hs
  have hinS : Hid ((Tryd.prog.info? 38).map (·.size) = some s.cells.toArray.size) := infoS hs
  have huS : Hid (Tryd.prog.underlying 38 = _) := Tryd.underlying38
  have hug : Hid (Tryd.prog.underlying 35 = _) := Tryd.underlying35
  clear hM hs hE
  go_enter Tryd.func15, Tryd.ntmps15
  go_upto_region 1 with (refine wpList_alloc_big rfl 38 rfl zv_S ?_)
  try simp only [Act.put, List.setIfInBounds_toArray, List.set_cons_zero, List.set_cons_succ]
  generalize ((w.alloc (objP M)).alloc (objSt s)).alloc (objSt zeroS) = W at *
  obtain ⟨p0, p1, p2, p3⟩ := hEH.out.p
  have hSV := hEH.out.st
  have hcall := fun (Q : Bool) (hQ : Hid (decide ((chk insR M.pr).1 = 0) = Q)) => rright_any M W (hMH.out.later hEH.out.b) Q hQ
  have hri : Hid _ := right_iff M.pr
  by_cases hok : (chk insP M.pr).1 = 0
  rotate_left
  · have xR := hcall false (decide_eq_false fun q => hok (hri.out.mpr q))
    obtain ⟨rfl, rfl⟩ : x = zeroS ∧ e = 3 := by have e1 := he.out; rw [settleR_unvalid (fun q => hok q.r), if_neg hok] at e1; simpa using e1
    clear he
    clear hcall hok
    go_wp2_with (first
      | (go_at_call 18; (with_reducible refine xR.mono ?_); rintro e2 w2 ⟨rfl, hb2⟩; (have hU : Hid (SeM w w2 M s) := hEH.out.later hb2))
      | (refine wpList_bld rfl 38 _ rfl #[] rfl zeroS.val bld_S0 ?_)
      | (refine wpList_store_row rfl 38 _ _ rfl (w.heap.size + 1 + 1) zeroS.cells.toArray rfl rfl _ _ hU.out.z (infoS zeroS_wf) rfl (oneS zeroS) ?_))
    exact bodyPost_ret (results_st Tryd.results15 _ _ (w.heap.size + 1 + 1) zeroS zeroS_wf _ rfl rfl (hU.out.z.put _)) rfl ⟨rfl, below_setRowG hU.out.b (by omega) _⟩
  have xR := hcall true (decide_eq_true (hri.out.mp hok))
  clear hcall
  go_upto_region 3 with (go_at_call 18; (with_reducible refine xR.mono ?_); rintro e2 w2 ⟨rfl, hb2⟩; (have hE2 : Hid (SeM w w2 M s) := hEH.out.later hb2); clear p0 p1 p2 p3)
  clear xR hEH hSV hb2
  have hSV := hE2.out.st
  obtain ⟨p0, p1, p2, p3⟩ := hE2.out.p
  by_cases hv : validS M.pr s
  rotate_left
  · have xV := rvalid_any M s hsH.out w2 (hMH.out.later hE2.out.b) false ⟨fun q => (by cases q), fun q => absurd q hv⟩
    obtain ⟨rfl, rfl⟩ : x = zeroS ∧ e = 4 := by have e1 := he.out; rw [settleR_unvalid hv, if_pos hok] at e1; simpa using e1
    clear he
    clear hv hok
    go_wp2_with (first
      | (refine wpList_load_row rfl 38 _ rfl (w.heap.size + 1) rfl _ _ _ _ hSV huS.out rfl hinS.out ?_)
      | (go_at_call 17; (with_reducible refine xV.mono ?_); rintro e2 w3 ⟨rfl, hb3⟩; (have hU : Hid (SeM w w3 M s) := hE2.out.later hb3); clear p0 p1 p2 p3)
      | (refine wpList_bld rfl 38 _ rfl #[] rfl zeroS.val bld_S0 ?_)
      | (refine wpList_store_row rfl 38 _ _ rfl (w.heap.size + 1 + 1) zeroS.cells.toArray rfl rfl _ _ hU.out.z (infoS zeroS_wf) rfl (oneS zeroS) ?_))
    exact bodyPost_ret (results_st Tryd.results15 _ _ (w.heap.size + 1 + 1) zeroS zeroS_wf _ rfl rfl (hU.out.z.put _)) rfl ⟨rfl, below_setRowG hU.out.b (by omega) _⟩
  have xV := rvalid_any M s hsH.out w2 (hMH.out.later hE2.out.b) true ⟨fun _ => hv, fun _ => rfl⟩
  have hvH : Hid (validS M.pr s) := hv
  clear hv
  go_upto_region 5 with (first
    | (refine wpList_load_row rfl 38 _ rfl (w.heap.size + 1) rfl _ _ _ _ hSV huS.out rfl hinS.out ?_)
    | (go_at_call 17; (with_reducible refine xV.mono ?_); rintro e2 w3 ⟨rfl, hb3⟩; (have hU : Hid (SeM w w3 M s) := hE2.out.later hb3); clear p0 p1 p2 p3))
  clear xV hE2 hSV hb3
  by_cases g0 : g < 0
  · obtain ⟨rfl, rfl⟩ : x = zeroS ∧ e = 1 := by have e1 := he.out; rw [settleR_arg hvH.out (fun q => by omega)] at e1; simpa using e1
    clear he
    have d0 : decide (g < 0) = true := decide_eq_true g0
    go_wp2_with (first
      | (refine wpList_bld rfl 38 _ rfl #[] rfl zeroS.val bld_S0 ?_)
      | (refine wpList_store_row rfl 38 _ _ rfl (w.heap.size + 1 + 1) zeroS.cells.toArray rfl rfl _ _ hU.out.z (infoS zeroS_wf) rfl (oneS zeroS) ?_))
    exact bodyPost_ret (results_st Tryd.results15 _ _ (w.heap.size + 1 + 1) zeroS zeroS_wf _ rfl rfl (hU.out.z.put _)) rfl ⟨rfl, below_setRowG hU.out.b (by omega) _⟩
  by_cases g1 : 6 ≤ g
  · obtain ⟨rfl, rfl⟩ : x = zeroS ∧ e = 1 := by have e1 := he.out; rw [settleR_arg hvH.out (fun q => by omega)] at e1; simpa using e1
    clear he
    have d0 : decide (g < 0) = false := decide_eq_false g0
    have d1 : decide (6 ≤ g) = true := decide_eq_true g1
    go_wp2_with (first
      | (refine wpList_bld rfl 38 _ rfl #[] rfl zeroS.val bld_S0 ?_)
      | (refine wpList_store_row rfl 38 _ _ rfl (w.heap.size + 1 + 1) zeroS.cells.toArray rfl rfl _ _ hU.out.z (infoS zeroS_wf) rfl (oneS zeroS) ?_))
    exact bodyPost_ret (results_st Tryd.results15 _ _ (w.heap.size + 1 + 1) zeroS zeroS_wf _ rfl rfl (hU.out.z.put _)) rfl ⟨rfl, below_setRowG hU.out.b (by omega) _⟩
  have d0 : decide (g < 0) = false := decide_eq_false g0
  have d1 : decide (6 ≤ g) = false := decide_eq_false g1
  by_cases f0 : f < 0
  · obtain ⟨rfl, rfl⟩ : x = zeroS ∧ e = 1 := by have e1 := he.out; rw [settleR_arg hvH.out (fun q => by omega)] at e1; simpa using e1
    clear he
    have d2 : decide (f < 0) = true := decide_eq_true f0
    go_wp2_with (first
      | (refine wpList_bld rfl 38 _ rfl #[] rfl zeroS.val bld_S0 ?_)
      | (refine wpList_store_row rfl 38 _ _ rfl (w.heap.size + 1 + 1) zeroS.cells.toArray rfl rfl _ _ hU.out.z (infoS zeroS_wf) rfl (oneS zeroS) ?_))
    exact bodyPost_ret (results_st Tryd.results15 _ _ (w.heap.size + 1 + 1) zeroS zeroS_wf _ rfl rfl (hU.out.z.put _)) rfl ⟨rfl, below_setRowG hU.out.b (by omega) _⟩
  by_cases f1 : 4096 < f
  · obtain ⟨rfl, rfl⟩ : x = zeroS ∧ e = 1 := by have e1 := he.out; rw [settleR_arg hvH.out (fun q => by omega)] at e1; simpa using e1
    clear he
    have d2 : decide (f < 0) = false := decide_eq_false f0
    have d3 : decide (4096 < f) = true := decide_eq_true f1
    go_wp2_with (first
      | (refine wpList_bld rfl 38 _ rfl #[] rfl zeroS.val bld_S0 ?_)
      | (refine wpList_store_row rfl 38 _ _ rfl (w.heap.size + 1 + 1) zeroS.cells.toArray rfl rfl _ _ hU.out.z (infoS zeroS_wf) rfl (oneS zeroS) ?_))
    exact bodyPost_ret (results_st Tryd.results15 _ _ (w.heap.size + 1 + 1) zeroS zeroS_wf _ rfl rfl (hU.out.z.put _)) rfl ⟨rfl, below_setRowG hU.out.b (by omega) _⟩
  have hf : 0 ≤ f ∧ f ≤ 4096 := by omega
  have d2 : decide (f < 0) = false := decide_eq_false f0
  have d3 : decide (4096 < f) = false := decide_eq_false f1
  have hga : 0 ≤ g ∧ g < 6 ∧ 0 ≤ f ∧ f ≤ 4096 := by omega
  have zc := hU.out.st.cnt hsH.out
  by_cases g2 : s.cnt ≤ g
  · obtain ⟨rfl, rfl⟩ : x = zeroS ∧ e = 9 := by have e1 := he.out; rw [settleR_none hvH.out hga (by omega)] at e1; simpa using e1
    clear he
    have d4 : decide (s.cnt ≤ g) = true := decide_eq_true g2
    go_wp2_with (first
      | (refine wpList_bld rfl 38 _ rfl #[] rfl zeroS.val bld_S0 ?_)
      | (refine wpList_store_row rfl 38 _ _ rfl (w.heap.size + 1 + 1) zeroS.cells.toArray rfl rfl _ _ hU.out.z (infoS zeroS_wf) rfl (oneS zeroS) ?_))
    exact bodyPost_ret (results_st Tryd.results15 _ _ (w.heap.size + 1 + 1) zeroS zeroS_wf _ rfl rfl (hU.out.z.put _)) rfl ⟨rfl, below_setRowG hU.out.b (by omega) _⟩
  have d4 : decide (s.cnt ≤ g) = false := decide_eq_false g2
  have h5 := goAt_wf hsH.out (g := g) (by omega)
  have h6 := settleG_stands hapF hvH.out.r (prI_of hMH.out) h5.2.2 (hvH.out.g g.toNat (by omega)) f.toNat
  have hst0 : stands M.pr (goAt s g) := hvH.out.g g.toNat (by omega)
  obtain ⟨rfl, rfl⟩ : x = setG s g.toNat (settleG word.apF (fnAt M.pr (goAt s g).fn).code f.toNat (goAt s g)) ∧ e = 0 := by have e1 := he.out; rw [settleR_ok hvH.out hga (by omega)] at e1; simpa using e1
  have hXw : Hid (settleG word.apF (fnAt M.pr (goAt s g).fn).code f.toNat (goAt s g)).wf := h6.2.1
  have hokH : Hid ((chk insP M.pr).1 = 0) := hvH.out.r
  have hgw : Hid (goAt s g).wf := h5.2.2
  have hgI : Hid (s.gos[g.toNat]? = some (goAt s g)) := h5.1
  have hgaH : Hid _ := hga
  have hfH : Hid _ := hf
  have hpg := ixg (w.heap.size + 1) g (by omega) (by omega)
  obtain ⟨F, hFi, hFm⟩ : ∃ F, M.fns[(goAt s g).fn.toNat]? = some F ∧ F ∈ M.fns := get_lt _ _ (by have h0 := hst0.1; have := hst0.2.1; have h2 : ((M.fns.map MFn.fn).length : Int) = M.fns.length := (by rw [List.length_map]); have h3 : (goAt s g).fn < ((M.fns.map MFn.fn).length : Int) := this; omega)
  have eF : Hid (fnAt M.pr (goAt s g).fn = F.fn) := fnAt_M hFi
  have hstH : Hid (stands M.pr (goAt s g)) := hst0
  have hgr : Hid (w3.rangeAt (w.heap.size + 1) (48 + g.toNat * 12) (goAt s g).cells) := by
    obtain ⟨b, off, ha, _, hc⟩ := ((hU.out.st.gos hsH.out).row (i := g.toNat) (row := (goAt s g).cells) (by rw [List.getElem?_map, h5.1]; rfl))
    simp only [Option.some.injEq, Addr.mk.injEq, and_true] at ha
    obtain ⟨rfl, rfl⟩ := ha
    intro j u hj
    rw [Nat.add_assoc]
    exact hc j u hj
  have hinf : Hid ((Tryd.prog.info? 35).map (·.size) = some (goAt s g).cells.length) := by have := infoGw h5.2.2; rwa [List.size_toArray] at this
  have hinfA : Hid ((Tryd.prog.info? 35).map (·.size) = some (goAt s g).cells.toArray.size) := infoGw h5.2.2
  clear he h5 h6 hst0 g0 g1 g2 hga hf
  have z0 : w3.cell? ⟨w.heap.size + 1, 48 + g.toNat * 12, none⟩ = some (.int .i64 (goAt s g).st) := hgr.out 0 _ rfl
  obtain ⟨X, hXd⟩ : ∃ X, Hid (settleG word.apF (fnAt M.pr (goAt s g).fn).code f.toNat (goAt s g) = X) := ⟨_, rfl⟩
  have hXw2 : Hid X.wf := by show X.wf; rw [← hXd.out]; exact hXw.out
  clear hXw
  have hXw := hXw2
  clear hXw2
  have hgin : Hid (GrIn (fnAt M.pr (goAt s g).fn).code (goAt s g)) := by
    obtain ⟨_, _, q0, q1, _⟩ := hstH.out
    have hw := hgw.out
    exact ⟨q0, q1, hw.2.2.2.2.1, hw.2.2.2.2.2⟩
  have n1 : Hid ((goAt s g).fn < (M.fns.length : Int)) := by
    have := (List.getElem?_eq_some_iff.mp hFi).1
    have h0 := hstH.out.1
    show (goAt s g).fn < (M.fns.length : Int)
    omega
  by_cases s1 : (goAt s g).st = 1
  · have hXs : Hid (X = runG word.apF lcB (fnAt M.pr (goAt s g).fn).code f.toNat { goAt s g with st := 1 }) := by
      show _ = _
      rw [← hXd.out, settleG, wake_not (by rw [s1]; decide)]
      congr 1
      rw [← s1]
    rw [s1] at z0
    clear s1
    go_upto_region 10 with fail
    have xS : ∀ V', Below w.heap.size w V' → Calls Tryd.prog 22 #[M.val, (goAt s g).val, .int .i64 f] V' fun e w' => e = .returned X.val ∧ Below V'.heap.size V' w' := fun V' hb' => by
      have := settled_any M (goAt s g) f.toNat hokH.out hstH.out.1 n1.out hgin.out (by have := hfH.out; omega) V' (hMH.out.later hb')
      rw [show ((f.toNat : Nat) : Int) = f by have := hfH.out; omega] at this
      rw [hXs.out]
      exact this
    have hH : Oth w3 (w.heap.size + 1) w3.drew := oth_drew _ _
    have hPc := hU.out.p
    have hwl : w.heap.size + 1 + 1 < w3.heap.size := hU.out.z.lt
    have hrP : ∀ w', Oth w3 (w.heap.size + 1) w' → w'.rangeAt w.heap.size 0 ([.slice M.va M.vars.length M.vcap, .int .i64 M.locks, .slice M.cha M.chans.length M.chcap, .slice M.fa M.fns.length M.fcap] : List Value) := fun w' h' j v hj => by
      match j, hj with
      | 0, hj => cases hj; exact h'.cell hPc.1 (by omega) (by omega)
      | 1, hj => cases hj; exact h'.cell hPc.2.1 (by omega) (by omega)
      | 2, hj => cases hj; exact h'.cell hPc.2.2.1 (by omega) (by omega)
      | 3, hj => cases hj; exact h'.cell hPc.2.2.2 (by omega) (by omega)
    refine wp_region_held_drew (S := Oth w3 (w.heap.size + 1)) (by kernel_rfl) hH (fun _ => ?_)
    refine reg_move (i := 0) rfl (by kernel_rfl) (by kernel_rfl) (by kernel_rfl) (fun _ _ _ _ h => h) rfl (.int .i64 g) (fun _ => by kernel_rfl) hH ?_
    simp only [Act.put, List.getElem_toArray, List.getElem_cons_succ, List.getElem_cons_zero, List.setIfInBounds_toArray, List.set_cons_zero, List.set_cons_succ]
    refine reg_load (i := 1) rfl (by kernel_rfl) (by kernel_rfl) (by kernel_rfl) (fun _ _ _ _ h => h) rfl 26 _ rfl w.heap.size 0 rfl [.slice M.va M.vars.length M.vcap, .int .i64 M.locks, .slice M.cha M.chans.length M.chcap, .slice M.fa M.fns.length M.fcap] _ hrP Tryd.underlying26 rfl (by kernel_rfl) hH ?_
    simp only [Act.put, List.getElem_toArray, List.getElem_cons_succ, List.getElem_cons_zero, List.setIfInBounds_toArray, List.set_cons_zero, List.set_cons_succ]
    refine reg_move (i := 2) rfl (by kernel_rfl) (by kernel_rfl) (by kernel_rfl) (fun _ _ _ _ h => h) rfl (.int .i64 g) (fun _ => by kernel_rfl) hH ?_
    simp only [Act.put, List.getElem_toArray, List.getElem_cons_succ, List.getElem_cons_zero, List.setIfInBounds_toArray, List.set_cons_zero, List.set_cons_succ]
    refine reg_move (i := 3) rfl (by kernel_rfl) (by kernel_rfl) (by kernel_rfl) (fun _ _ _ _ h => h) rfl (.pointer (some ⟨w.heap.size + 1, 48, none⟩)) (fun _ => by kernel_rfl) hH ?_
    simp only [Act.put, List.getElem_toArray, List.getElem_cons_succ, List.getElem_cons_zero, List.setIfInBounds_toArray, List.set_cons_zero, List.set_cons_succ]
    refine reg_move (i := 4) rfl (by kernel_rfl) (by kernel_rfl) (by kernel_rfl) (fun _ _ _ _ h => h) rfl ((.pointer (some ⟨w.heap.size + 1, 48 + g.toNat * 12, none⟩))) (fun wx => by unfold execOp; exact run_valueS (hpg wx)) hH ?_
    simp only [Act.put, List.getElem_toArray, List.getElem_cons_succ, List.getElem_cons_zero, List.setIfInBounds_toArray, List.set_cons_zero, List.set_cons_succ]
    refine reg_move (i := 6) rfl (by kernel_rfl) (by kernel_rfl) (by kernel_rfl) (fun _ _ _ _ h => h) rfl (.int .i64 f) (fun _ => by kernel_rfl) hH ?_
    simp only [Act.put, List.getElem_toArray, List.getElem_cons_succ, List.getElem_cons_zero, List.setIfInBounds_toArray, List.set_cons_zero, List.set_cons_succ]
    refine reg_move (i := 8) rfl (by kernel_rfl) (by kernel_rfl) (by kernel_rfl) (fun _ _ _ _ h => h) rfl (.pointer (some ⟨w.heap.size + 1, 48, none⟩)) (fun _ => by kernel_rfl) hH ?_
    simp only [Act.put, List.getElem_toArray, List.getElem_cons_succ, List.getElem_cons_zero, List.setIfInBounds_toArray, List.set_cons_zero, List.set_cons_succ]
    have hgrd : w3.drew.rangeAt (w.heap.size + 1) (48 + g.toNat * 12) (goAt s g).cells := fun j v hj => cell_later (bey_drew w3) (hgr.out j v hj)
    refine reg_one (i := 5) (by kernel_rfl) rfl rfl (wpList_load_mid rfl 35 _ rfl (w.heap.size + 1) (48 + g.toNat * 12) rfl (goAt s g).cells _ hgrd Tryd.underlying35 rfl hinf.out (wpList_nil (And.intro hH fun _ => ?_)))
    simp only [Act.put, List.getElem_toArray, List.getElem_cons_succ, List.getElem_cons_zero, List.setIfInBounds_toArray, List.set_cons_zero, List.set_cons_succ]
    have xS' := xS w3.drew (hU.out.later (bey_drew _)).b
    refine reg_call3 (i := 7) (by kernel_rfl) rfl rfl 22 _ _ _ _ _ _ rfl M.val (goAt s g).val (.int .i64 f) rfl rfl rfl (cf_fn Tryd.func22 (by kernel_rfl) (by kernel_rfl) _ _) _ xS' ?_
    rintro e4 w4 ⟨rfl, hb4⟩
    have hO4 : Oth w3 (w.heap.size + 1) w4 := hH.below (Nat.le_refl _) hb4
    refine ⟨_, rfl, hO4, fun _ => ?_⟩
    simp only [Act.put, List.getElem_toArray, List.getElem_cons_succ, List.getElem_cons_zero, List.setIfInBounds_toArray, List.set_cons_zero, List.set_cons_succ]
    have hV4 : SeM w w4 M s := (hU.out.later (bey_drew _)).later hb4
    refine reg_move (i := 9) rfl (by kernel_rfl) (by kernel_rfl) (by kernel_rfl) (fun _ _ _ _ h => h) rfl ((.pointer (some ⟨w.heap.size + 1, 48 + g.toNat * 12, none⟩))) (fun wx => by unfold execOp; exact run_valueS (hpg wx)) hO4 ?_
    simp only [Act.put, List.getElem_toArray, List.getElem_cons_succ, List.getElem_cons_zero, List.setIfInBounds_toArray, List.set_cons_zero, List.set_cons_succ]
    refine reg_one (i := 10) (by kernel_rfl) rfl rfl (wpList_putG rfl _ _ rfl (w.heap.size + 1) g.toNat s hsH.out (by have := hgaH.out; omega) X hXw.out rfl rfl hV4.st ?_)
    intro W5 hI5 hB5 hO5
    refine wpList_nil (And.intro (fun b h1 h2 => (hO5 b h2).trans (hO4 b h1 h2)) fun _ => ?_)
    simp only [Act.put, List.getElem_toArray, List.getElem_cons_succ, List.getElem_cons_zero, List.setIfInBounds_toArray, List.set_cons_zero, List.set_cons_succ]
    refine wpAnyH_done (by kernel_rfl) ?_ _
    have hz5 : InS W5 (w.heap.size + 1 + 1) zeroS := (hO5 _ (by omega)).trans hV4.z
    have hbE : Hid (Below w.heap.size w W5) := hB5 _ _ (by omega) hV4.b
    have hwfH : Hid (setG s g.toNat X).wf := setG_wf hsH.out _ hXw.out
    clear xS xS' hB5 hO5 hb4 hO4 hV4 hH hpg hPc hrP hgrd z0
    go_wp2_with (first
      | (refine wpList_load_row rfl 38 _ rfl (w.heap.size + 1) rfl _ _ _ _ hI5 huS.out rfl (infoS hwfH.out) ?_)
      | (refine wpList_store_row rfl 38 _ _ rfl (w.heap.size + 1 + 1) (Sts.cells (setG s g.toNat X)).toArray rfl rfl _ _ hz5 (infoS hwfH.out) (sizeSS zeroS_wf hwfH.out) (oneS _) ?_))
    exact bodyPost_ret (results_st Tryd.results15 _ _ (w.heap.size + 1 + 1) (setG s g.toNat X) hwfH.out (.int .i64 0) rfl rfl (hz5.put _)) rfl ⟨by rw [hXd.out], below_setRowG hbE.out (by omega) _⟩
  by_cases s5 : (goAt s g).st = 5
  · have hXs : Hid (X = runG word.apF lcB (fnAt M.pr (goAt s g).fn).code f.toNat { goAt s g with st := 1 }) := by
      show _ = _
      rw [← hXd.out, settleG, wake, if_pos s5]
    rw [s5] at z0
    clear s1 s5
    go_upto_region 10 with fail
    have xS : ∀ V', Below w.heap.size w V' → Calls Tryd.prog 22 #[M.val, (goAt s g).val, .int .i64 f] V' fun e w' => e = .returned X.val ∧ Below V'.heap.size V' w' := fun V' hb' => by
      have := settled_any M (goAt s g) f.toNat hokH.out hstH.out.1 n1.out hgin.out (by have := hfH.out; omega) V' (hMH.out.later hb')
      rw [show ((f.toNat : Nat) : Int) = f by have := hfH.out; omega] at this
      rw [hXs.out]
      exact this
    have hH : Oth w3 (w.heap.size + 1) w3.drew := oth_drew _ _
    have hPc := hU.out.p
    have hwl : w.heap.size + 1 + 1 < w3.heap.size := hU.out.z.lt
    have hrP : ∀ w', Oth w3 (w.heap.size + 1) w' → w'.rangeAt w.heap.size 0 ([.slice M.va M.vars.length M.vcap, .int .i64 M.locks, .slice M.cha M.chans.length M.chcap, .slice M.fa M.fns.length M.fcap] : List Value) := fun w' h' j v hj => by
      match j, hj with
      | 0, hj => cases hj; exact h'.cell hPc.1 (by omega) (by omega)
      | 1, hj => cases hj; exact h'.cell hPc.2.1 (by omega) (by omega)
      | 2, hj => cases hj; exact h'.cell hPc.2.2.1 (by omega) (by omega)
      | 3, hj => cases hj; exact h'.cell hPc.2.2.2 (by omega) (by omega)
    refine wp_region_held_drew (S := Oth w3 (w.heap.size + 1)) (by kernel_rfl) hH (fun _ => ?_)
    refine reg_move (i := 0) rfl (by kernel_rfl) (by kernel_rfl) (by kernel_rfl) (fun _ _ _ _ h => h) rfl (.int .i64 g) (fun _ => by kernel_rfl) hH ?_
    simp only [Act.put, List.getElem_toArray, List.getElem_cons_succ, List.getElem_cons_zero, List.setIfInBounds_toArray, List.set_cons_zero, List.set_cons_succ]
    refine reg_load (i := 1) rfl (by kernel_rfl) (by kernel_rfl) (by kernel_rfl) (fun _ _ _ _ h => h) rfl 26 _ rfl w.heap.size 0 rfl [.slice M.va M.vars.length M.vcap, .int .i64 M.locks, .slice M.cha M.chans.length M.chcap, .slice M.fa M.fns.length M.fcap] _ hrP Tryd.underlying26 rfl (by kernel_rfl) hH ?_
    simp only [Act.put, List.getElem_toArray, List.getElem_cons_succ, List.getElem_cons_zero, List.setIfInBounds_toArray, List.set_cons_zero, List.set_cons_succ]
    refine reg_move (i := 2) rfl (by kernel_rfl) (by kernel_rfl) (by kernel_rfl) (fun _ _ _ _ h => h) rfl (.int .i64 g) (fun _ => by kernel_rfl) hH ?_
    simp only [Act.put, List.getElem_toArray, List.getElem_cons_succ, List.getElem_cons_zero, List.setIfInBounds_toArray, List.set_cons_zero, List.set_cons_succ]
    refine reg_move (i := 3) rfl (by kernel_rfl) (by kernel_rfl) (by kernel_rfl) (fun _ _ _ _ h => h) rfl (.pointer (some ⟨w.heap.size + 1, 48, none⟩)) (fun _ => by kernel_rfl) hH ?_
    simp only [Act.put, List.getElem_toArray, List.getElem_cons_succ, List.getElem_cons_zero, List.setIfInBounds_toArray, List.set_cons_zero, List.set_cons_succ]
    refine reg_move (i := 4) rfl (by kernel_rfl) (by kernel_rfl) (by kernel_rfl) (fun _ _ _ _ h => h) rfl ((.pointer (some ⟨w.heap.size + 1, 48 + g.toNat * 12, none⟩))) (fun wx => by unfold execOp; exact run_valueS (hpg wx)) hH ?_
    simp only [Act.put, List.getElem_toArray, List.getElem_cons_succ, List.getElem_cons_zero, List.setIfInBounds_toArray, List.set_cons_zero, List.set_cons_succ]
    refine reg_move (i := 6) rfl (by kernel_rfl) (by kernel_rfl) (by kernel_rfl) (fun _ _ _ _ h => h) rfl (.int .i64 f) (fun _ => by kernel_rfl) hH ?_
    simp only [Act.put, List.getElem_toArray, List.getElem_cons_succ, List.getElem_cons_zero, List.setIfInBounds_toArray, List.set_cons_zero, List.set_cons_succ]
    refine reg_move (i := 8) rfl (by kernel_rfl) (by kernel_rfl) (by kernel_rfl) (fun _ _ _ _ h => h) rfl (.pointer (some ⟨w.heap.size + 1, 48, none⟩)) (fun _ => by kernel_rfl) hH ?_
    simp only [Act.put, List.getElem_toArray, List.getElem_cons_succ, List.getElem_cons_zero, List.setIfInBounds_toArray, List.set_cons_zero, List.set_cons_succ]
    have hgrd : w3.drew.rangeAt (w.heap.size + 1) (48 + g.toNat * 12) (goAt s g).cells := fun j v hj => cell_later (bey_drew w3) (hgr.out j v hj)
    refine reg_one (i := 5) (by kernel_rfl) rfl rfl (wpList_load_mid rfl 35 _ rfl (w.heap.size + 1) (48 + g.toNat * 12) rfl (goAt s g).cells _ hgrd Tryd.underlying35 rfl hinf.out (wpList_nil (And.intro hH fun _ => ?_)))
    simp only [Act.put, List.getElem_toArray, List.getElem_cons_succ, List.getElem_cons_zero, List.setIfInBounds_toArray, List.set_cons_zero, List.set_cons_succ]
    have xS' := xS w3.drew (hU.out.later (bey_drew _)).b
    refine reg_call3 (i := 7) (by kernel_rfl) rfl rfl 22 _ _ _ _ _ _ rfl M.val (goAt s g).val (.int .i64 f) rfl rfl rfl (cf_fn Tryd.func22 (by kernel_rfl) (by kernel_rfl) _ _) _ xS' ?_
    rintro e4 w4 ⟨rfl, hb4⟩
    have hO4 : Oth w3 (w.heap.size + 1) w4 := hH.below (Nat.le_refl _) hb4
    refine ⟨_, rfl, hO4, fun _ => ?_⟩
    simp only [Act.put, List.getElem_toArray, List.getElem_cons_succ, List.getElem_cons_zero, List.setIfInBounds_toArray, List.set_cons_zero, List.set_cons_succ]
    have hV4 : SeM w w4 M s := (hU.out.later (bey_drew _)).later hb4
    refine reg_move (i := 9) rfl (by kernel_rfl) (by kernel_rfl) (by kernel_rfl) (fun _ _ _ _ h => h) rfl ((.pointer (some ⟨w.heap.size + 1, 48 + g.toNat * 12, none⟩))) (fun wx => by unfold execOp; exact run_valueS (hpg wx)) hO4 ?_
    simp only [Act.put, List.getElem_toArray, List.getElem_cons_succ, List.getElem_cons_zero, List.setIfInBounds_toArray, List.set_cons_zero, List.set_cons_succ]
    refine reg_one (i := 10) (by kernel_rfl) rfl rfl (wpList_putG rfl _ _ rfl (w.heap.size + 1) g.toNat s hsH.out (by have := hgaH.out; omega) X hXw.out rfl rfl hV4.st ?_)
    intro W5 hI5 hB5 hO5
    refine wpList_nil (And.intro (fun b h1 h2 => (hO5 b h2).trans (hO4 b h1 h2)) fun _ => ?_)
    simp only [Act.put, List.getElem_toArray, List.getElem_cons_succ, List.getElem_cons_zero, List.setIfInBounds_toArray, List.set_cons_zero, List.set_cons_succ]
    refine wpAnyH_done (by kernel_rfl) ?_ _
    have hz5 : InS W5 (w.heap.size + 1 + 1) zeroS := (hO5 _ (by omega)).trans hV4.z
    have hbE : Hid (Below w.heap.size w W5) := hB5 _ _ (by omega) hV4.b
    have hwfH : Hid (setG s g.toNat X).wf := setG_wf hsH.out _ hXw.out
    clear xS xS' hB5 hO5 hb4 hO4 hV4 hH hpg hPc hrP hgrd z0
    go_wp2_with (first
      | (refine wpList_load_row rfl 38 _ rfl (w.heap.size + 1) rfl _ _ _ _ hI5 huS.out rfl (infoS hwfH.out) ?_)
      | (refine wpList_store_row rfl 38 _ _ rfl (w.heap.size + 1 + 1) (Sts.cells (setG s g.toNat X)).toArray rfl rfl _ _ hz5 (infoS hwfH.out) (sizeSS zeroS_wf hwfH.out) (oneS _) ?_))
    exact bodyPost_ret (results_st Tryd.results15 _ _ (w.heap.size + 1 + 1) (setG s g.toNat X) hwfH.out (.int .i64 0) rfl rfl (hz5.put _)) rfl ⟨by rw [hXd.out], below_setRowG hbE.out (by omega) _⟩
  have hXs : Hid (X = goAt s g) := by
    show _ = _
    rw [← hXd.out]
    exact settleG_same s1 s5
  have hself : Hid (setG s g.toNat (goAt s g) = s) := setG_self hgI.out
  have d5 : ((goAt s g).st == 1) = false := by simpa using s1
  have d6 : ((goAt s g).st == 5) = false := by simpa using s5
  have hz5 := hU.out.z
  have hI5 := hU.out.st
  clear s1 s5
  go_wp2_with (first
    | (refine wpList_load_row rfl 38 _ rfl (w.heap.size + 1) rfl _ _ _ _ hI5 huS.out rfl hinS.out ?_)
    | (refine wpList_store_row rfl 38 _ _ rfl (w.heap.size + 1 + 1) s.cells.toArray rfl rfl _ _ hz5 hinS.out (sizeSS zeroS_wf hsH.out) (oneS _) ?_))
  exact bodyPost_ret (results_st Tryd.results15 _ _ (w.heap.size + 1 + 1) s hsH.out (.int .i64 0) rfl rfl (hz5.put _)) rfl ⟨by rw [hXd.out, hXs.out, hself.out], below_setRowG hU.out.b (by omega) _⟩
end Go.Proofs.YtjcmhaaohdmjpaaDoor.pg
/- StateSettles, walked. -/
namespace Go.Proofs.YtjcmhaaohdmjpaaDoor.pg
open Go.ChangeShapes Go.WideShapes Go.ChangeAt Go.RowKit
set_option linter.unusedVariables false
set_option linter.unusedSimpArgs false
set_option maxRecDepth 100000
set_option maxHeartbeats 6000000 in
theorem settles_any (M : MPr) (s : Sts) (hs : s.wf) (g f : Int) (w : World) (hM : M.lies w) (hF : prog.Forms w) :
    Calls Tryd.prog 4 #[caseV M s g f] w fun e w' => e = .returned (.bool true) ∧ Below w.heap.size w w' := by
  have hL0 : Hid (Lw w (w.alloc (objCa M s g f)) M s g f) := ⟨boxed _ _, inCa_new _ _ _ _ _⟩
  have hMH : Hid (M.lies w) := hM
  have hFH : Hid (prog.Forms w) := hF
  have hsH : Hid s.wf := hs
  have huS : Hid (Tryd.prog.underlying 38 = _) := Tryd.underlying38
  have hinL : Hid ((Tryd.prog.info? 38).map (·.size) = some s.cells.length) := by have := infoS hs; rwa [List.size_toArray] at this
  clear hM hF hs
  go_enter Tryd.func4, Tryd.ntmps4
  go_upto_region 1 with fail
  generalize w.alloc (objCa M s g f) = W at *
  obtain ⟨x, e, he⟩ : ∃ x e, Hid ((x, e) = settleR M.pr s g f) := ⟨_, _, rfl⟩
  have xw : Hid x.wf := settleR_wf hsH.out (prI_of hMH.out) he.out
  have heq := eql_st xw.out xw.out true (by simp)
  have xA := settle_any M s hsH.out g f W (hMH.out.later hL0.out.b) (hFH.out.later hL0.out.b) x e he
  obtain ⟨p0, p1, p2, p3⟩ := hL0.out.a.p
  have zg := hL0.out.a.g hsH.out
  have zf := hL0.out.a.f hsH.out
  have zc := hL0.out.a.c hsH.out
  have rS : Hid (W.rangeAt w.heap.size 4 s.cells) := hL0.out.a.s
  go_upto_region 2 with (first
    | (refine wpList_load_mid rfl 38 _ rfl w.heap.size 4 rfl s.cells _ rS.out huS.out rfl hinL.out ?_)
    | (go_at_call 14; (refine xA.mono ?_); rintro e' wq1 ⟨rfl, hb1⟩; (have hzi : (wq1.alloc (objSt zeroS)).heap[wq1.heap.size]? = some (objSt zeroS) := heap_alloc_new wq1 _))
    | (refine wpList_alloc_big rfl 38 rfl zv_S ?_)
    | (refine wpList_store_row rfl 38 _ _ rfl wq1.heap.size x.cells.toArray rfl rfl _ _ hzi (infoS xw.out) (sizeSS zeroS_wf xw.out) (oneS x) ?_))
  try simp only [Act.put, List.setIfInBounds_toArray, List.set_cons_zero, List.set_cons_succ]
  have hT1 : Hid (InS ((wq1.alloc (objSt zeroS)).setRow wq1.heap.size x.cells.toArray) wq1.heap.size x) := setRow_heap _ _ _ _ _ _ hzi
  have hB1 : Hid (Below W.heap.size W ((wq1.alloc (objSt zeroS)).setRow wq1.heap.size x.cells.toArray)) := below_setRowG (bthen hb1 (boxed _ _)) hb1.size _
  generalize (wq1.alloc (objSt zeroS)).setRow wq1.heap.size x.cells.toArray = V1 at *
  generalize wq1.heap.size = TB1 at *
  clear hzi hb1
  clear p0 p1 p2 p3 zg zf zc rS
  have hL1 : Hid (Lw w V1 M s g f) := hL0.out.later hB1.out
  have xB := rsettle_any M s hsH.out g f V1 (hMH.out.later hL1.out.b) x e he
  clear xA
  obtain ⟨p0, p1, p2, p3⟩ := hL1.out.a.p
  have zg := hL1.out.a.g hsH.out
  have zf := hL1.out.a.f hsH.out
  have zc := hL1.out.a.c hsH.out
  have rS : Hid (V1.rangeAt w.heap.size 4 s.cells) := hL1.out.a.s
  go_upto_region 3 with (first
    | (refine wpList_load_mid rfl 38 _ rfl w.heap.size 4 rfl s.cells _ rS.out huS.out rfl hinL.out ?_)
    | (go_at_call 15; (refine xB.mono ?_); rintro e' wq2 ⟨rfl, hb2⟩; (have hzi : (wq2.alloc (objSt zeroS)).heap[wq2.heap.size]? = some (objSt zeroS) := heap_alloc_new wq2 _))
    | (refine wpList_alloc_big rfl 38 rfl zv_S ?_)
    | (refine wpList_store_row rfl 38 _ _ rfl wq2.heap.size x.cells.toArray rfl rfl _ _ hzi (infoS xw.out) (sizeSS zeroS_wf xw.out) (oneS x) ?_))
  try simp only [Act.put, List.setIfInBounds_toArray, List.set_cons_zero, List.set_cons_succ]
  have hT2 : Hid (InS ((wq2.alloc (objSt zeroS)).setRow wq2.heap.size x.cells.toArray) wq2.heap.size x) := setRow_heap _ _ _ _ _ _ hzi
  have hB2 : Hid (Below V1.heap.size V1 ((wq2.alloc (objSt zeroS)).setRow wq2.heap.size x.cells.toArray)) := below_setRowG (bthen hb2 (boxed _ _)) hb2.size _
  generalize (wq2.alloc (objSt zeroS)).setRow wq2.heap.size x.cells.toArray = V2 at *
  generalize wq2.heap.size = TB2 at *
  clear hzi hb2
  clear p0 p1 p2 p3 zg zf zc rS
  have hL2 : Hid (Lw w V2 M s g f) := hL1.out.later hB2.out
  have hS1 : InS V2 TB1 x := hT1.out.later hB2.out
  have hS2 : InS V2 TB2 x := hT2.out
  have xC := smallS_any V2 (hFH.out.later hL2.out.b)
  clear xB he
  go_wp2_with (first
    | (refine wpList_load_row rfl 38 _ rfl TB1 rfl _ _ _ _ hS1 huS.out rfl (infoS xw.out) ?_)
    | (refine wpList_load_row rfl 38 _ rfl TB2 rfl _ _ _ _ hS2 huS.out rfl (infoS xw.out) ?_)
    | (go_at_call 13; (refine xC.mono ?_); rintro e' w6 ⟨rfl, hb6⟩))
  go_ret
  exact ⟨by simp, bthen hL2.out.b hb6⟩
end Go.Proofs.YtjcmhaaohdmjpaaDoor.pg
