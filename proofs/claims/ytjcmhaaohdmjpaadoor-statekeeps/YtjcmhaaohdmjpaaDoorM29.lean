/- What is settled twice, and by two goroutines; states compared behind a guard. -/
import Derived.Test.YtjcmhaaohdmjpaaDoorM27
import Derived.Test.YtjcmhaaohdmjpaaDoorM28
namespace Go.Proofs.YtjcmhaaohdmjpaaDoor.pg
open Go.ChangeShapes Go.WideShapes Go.ChangeAt Go.RowKit
set_option linter.unusedVariables false
set_option linter.unusedSimpArgs false
set_option maxRecDepth 100000
/-- Fuel adds up. -/
theorem settleG_more (ap : Int → Int → Int → Int × Int) (code : List Ins) (a b : Nat) (g : Gr) : settleG ap code b (settleG ap code a g) = settleG ap code (a + b) g := runG_more a b (wake g) (wake_ne g)
theorem goAt_set {s : Sts} (hs : s.wf) {g h : Int} (x : Gr) (h1 : g.toNat < 6) : goAt (setG s g.toNat x) h = if h.toNat = g.toNat then x else goAt s h := getD_set _ _ _ _ _ (by rw [hs.lg]; exact h1)
/-- What is settled, where all is right. -/
theorem settle_pack {P : Pr} {s : Sts} (hs : s.wf) (hi : PrI P) (hv : validS P s) {g f : Int} (h0 : 0 ≤ g) (h1 : g < s.cnt) (f0 : 0 ≤ f) (f1 : f ≤ 4096) :
    ∃ x, settleR P s g f = (x, 0) ∧ x.wf ∧ validS P x ∧ x = setG s g.toNat (settleG word.apF (fnAt P (goAt s g).fn).code f.toNat (goAt s g)) := by
  have c6 := hv.f.c6
  have e := settleR_ok hv (f := f) ⟨h0, by omega, f0, f1⟩ h1
  exact ⟨_, e, settleR_wf hs hi e.symm, settle_valid hapF hi hs hv (by omega) f.toNat, rfl⟩
theorem sums_pack {P : Pr} {s : Sts} (hs : s.wf) (hi : PrI P) (hv : validS P s) {g f m : Int} (h0 : 0 ≤ g) (h1 : g < s.cnt) (f0 : 0 ≤ f) (m0 : 0 ≤ m) (fm : f + m ≤ 4096) :
    ∃ x y, Hid ((x, 0) = settleR P s g f) ∧ Hid ((y, 0) = settleR P x g m) ∧ Hid ((y, 0) = settleR P s g (f + m)) ∧ Hid x.wf ∧ Hid y.wf := by
  obtain ⟨x, e1, w1, v1, d1⟩ := settle_pack hs hi hv h0 h1 f0 (by omega)
  have c1 : x.cnt = s.cnt := by rw [d1]; rfl
  obtain ⟨y, e2, w2, v2, d2⟩ := settle_pack w1 hi v1 h0 (by rw [c1]; exact h1) m0 (by omega)
  obtain ⟨z, e3, w3, v3, d3⟩ := settle_pack hs hi hv h0 h1 (f := f + m) (by omega) fm
  have c6 := hv.f.c6
  have hgl : g.toNat < 6 := by omega
  have hfn : (settleG word.apF (fnAt P (goAt s g).fn).code f.toNat (goAt s g)).fn = (goAt s g).fn := by unfold settleG; rw [runG_fn, wake_fn]
  have eg : goAt x g = settleG word.apF (fnAt P (goAt s g).fn).code f.toNat (goAt s g) := by rw [d1, goAt_set hs _ hgl, if_pos rfl]
  have : y = z := by
    rw [d2, d3, eg, hfn, settleG_more, d1, show f.toNat + m.toNat = (f + m).toNat by omega]
    unfold setG
    simp only [List.set_set]
  subst this
  exact ⟨x, y, e1.symm, e2.symm, e3.symm, w1, w2⟩
theorem apart_pack {P : Pr} {s : Sts} (hs : s.wf) (hi : PrI P) (hv : validS P s) {g h f : Int} (h0 : 0 ≤ g) (h1 : g < s.cnt) (k0 : 0 ≤ h) (k1 : h < s.cnt) (hne : g ≠ h) (f0 : 0 ≤ f) (f1 : f ≤ 4096) :
    ∃ x y z, Hid ((x, 0) = settleR P s g f) ∧ Hid ((z, 0) = settleR P x h f) ∧ Hid ((y, 0) = settleR P s h f) ∧ Hid ((z, 0) = settleR P y g f) ∧ Hid x.wf ∧ Hid y.wf ∧ Hid z.wf := by
  obtain ⟨x, e1, w1, v1, d1⟩ := settle_pack hs hi hv h0 h1 f0 f1
  obtain ⟨y, e2, w2, v2, d2⟩ := settle_pack hs hi hv k0 k1 f0 f1
  have c1 : x.cnt = s.cnt := by rw [d1]; rfl
  have c2 : y.cnt = s.cnt := by rw [d2]; rfl
  obtain ⟨z, e3, w3, v3, d3⟩ := settle_pack w1 hi v1 k0 (by rw [c1]; exact k1) f0 f1
  obtain ⟨u, e4, w4, v4, d4⟩ := settle_pack w2 hi v2 h0 (by rw [c2]; exact h1) f0 f1
  have c6 := hv.f.c6
  have ex : goAt x h = goAt s h := by rw [d1, goAt_set hs _ (by omega), if_neg (by omega)]
  have ey : goAt y g = goAt s g := by rw [d2, goAt_set hs _ (by omega), if_neg (by omega)]
  have : z = u := by
    rw [d3, d4, ex, ey, d1, d2]
    unfold setG
    simp only
    rw [List.set_comm _ _ (show g.toNat ≠ h.toNat by omega)]
  subst this
  exact ⟨x, y, z, e1.symm, e3.symm, e2.symm, e4.symm, w1, w2, w3⟩
theorem at_eql {P : Program} {ops : Array Oper} {rest : List Oper} {op : Oper} {a : Act} {w : World} {Q : Exit → Act → World → Prop} (t t2 : TypeId) (x y : Operand) (ho : op.op = .binOp .eql t x y t2) (h : Stopped (wpList P ops Q (op :: rest) a w)) : wpList P ops Q (op :: rest) a w := h
theorem wpList_eql_g {P : Program} {ops : Array Oper} {rest : List Oper} {o : Oper} {a : Act} {w : World} {Q : Exit → Act → World → Prop} (t t2 : TypeId) (x y : Operand) (ho : o.op = .binOp .eql t x y t2) (hw : Region.wanted o (yielded ops a.tmps) = true) (u v : Array Value) (hx : a.eval x = .agg u) (hy : a.eval y = .agg v) (hm : P.eqGuardType P.depth t = false) (r : Value) (hr : ∀ w, (binOp .eql t (.agg u) (.agg v)).run P w = .ok r w)
    (h : wpList P ops Q rest (a.put o.dst r) w) : wpList P ops Q (o :: rest) a w := BigFrame.wpList_want hw fun K hK => by
  unfold Oper.wp execOp
  simp only [ho, hx, hy, run_eqGuard_agg (op := .eql) (hm := hm), Sem.run_bind, Sem.run_pure, Result.andThen_ok, hr]
  exact hK _ _ h
end Go.Proofs.YtjcmhaaohdmjpaaDoor.pg
/- StateSums, walked. -/
namespace Go.Proofs.YtjcmhaaohdmjpaaDoor.pg
open Go.ChangeShapes Go.WideShapes Go.ChangeAt Go.RowKit
set_option linter.unusedVariables false
set_option linter.unusedSimpArgs false
set_option maxRecDepth 100000
set_option maxHeartbeats 6000000 in
theorem sums_any (M : MPr) (s : Sts) (hs : s.wf) (g f : Int) (m : Int) (w : World) (hM : M.lies w) (hF : prog.Forms w) :
    Calls Tryd.prog 7 #[caseV M s g f, .int .i64 m] w fun e w' => e = .returned (.bool true) ∧ Below w.heap.size w w' := by
  have hL0 : Hid (Lw w (w.alloc (objCa M s g f)) M s g f) := ⟨boxed _ _, inCa_new _ _ _ _ _⟩
  have hMH : Hid (M.lies w) := hM
  have hFH : Hid (prog.Forms w) := hF
  have hsH : Hid s.wf := hs
  have huS : Hid (Tryd.prog.underlying 38 = _) := Tryd.underlying38
  have hinL : Hid ((Tryd.prog.info? 38).map (·.size) = some s.cells.length) := by have := infoS hs; rwa [List.size_toArray] at this
  clear hM hF hs
  go_enter Tryd.func7, Tryd.ntmps7
  go_upto_region 1 with fail
  generalize w.alloc (objCa M s g f) = W at *
  have hqS : Hid (Tryd.prog.eqGuardType Tryd.prog.depth 38 = false) := by show _ = _; kernel_rfl
  have cC : ∀ V, Below W.heap.size W V → Calls Tryd.prog 13 #[] V fun e w' => e = .returned (.bool true) ∧ Below V.heap.size V w' := fun V hV => smallS_any V (hFH.out.later (bthen hL0.out.b hV))
  by_cases f0 : f < 0
  · obtain ⟨p0, p1, p2, p3⟩ := hL0.out.a.p
    have zg := hL0.out.a.g hsH.out
    have zf := hL0.out.a.f hsH.out
    have zc := hL0.out.a.c hsH.out
    have rS : Hid (W.rangeAt w.heap.size 4 s.cells) := hL0.out.a.s
    have d0 : decide (f < 0) = true := decide_eq_true f0
    have xC := cC W (Below.refl _ _)
    clear cC
    go_wp2_with (go_at_call 13; (refine xC.mono ?_); rintro e' w6 ⟨rfl, hb6⟩)
    go_ret
    exact ⟨rfl, bthen hL0.out.b hb6⟩
  by_cases m0 : m < 0
  · obtain ⟨p0, p1, p2, p3⟩ := hL0.out.a.p
    have zg := hL0.out.a.g hsH.out
    have zf := hL0.out.a.f hsH.out
    have zc := hL0.out.a.c hsH.out
    have rS : Hid (W.rangeAt w.heap.size 4 s.cells) := hL0.out.a.s
    have d0 : decide (f < 0) = false := decide_eq_false f0
    have d1 : decide (m < 0) = true := decide_eq_true m0
    have xC := cC W (Below.refl _ _)
    clear cC
    go_wp2_with (go_at_call 13; (refine xC.mono ?_); rintro e' w6 ⟨rfl, hb6⟩)
    go_ret
    exact ⟨rfl, bthen hL0.out.b hb6⟩
  by_cases f1 : 4096 < f
  · obtain ⟨p0, p1, p2, p3⟩ := hL0.out.a.p
    have zg := hL0.out.a.g hsH.out
    have zf := hL0.out.a.f hsH.out
    have zc := hL0.out.a.c hsH.out
    have rS : Hid (W.rangeAt w.heap.size 4 s.cells) := hL0.out.a.s
    have d0 : decide (f < 0) = false := decide_eq_false f0
    have d1 : decide (m < 0) = false := decide_eq_false m0
    have d2 : decide (4096 < f) = true := decide_eq_true f1
    have xC := cC W (Below.refl _ _)
    clear cC
    go_wp2_with (go_at_call 13; (refine xC.mono ?_); rintro e' w6 ⟨rfl, hb6⟩)
    go_ret
    exact ⟨rfl, bthen hL0.out.b hb6⟩
  by_cases m1 : 4096 - f < m
  · obtain ⟨p0, p1, p2, p3⟩ := hL0.out.a.p
    have zg := hL0.out.a.g hsH.out
    have zf := hL0.out.a.f hsH.out
    have zc := hL0.out.a.c hsH.out
    have rS : Hid (W.rangeAt w.heap.size 4 s.cells) := hL0.out.a.s
    have d0 : decide (f < 0) = false := decide_eq_false f0
    have d1 : decide (m < 0) = false := decide_eq_false m0
    have d2 : decide (4096 < f) = false := decide_eq_false f1
    have d3 : decide (4096 - f < m) = true := decide_eq_true m1
    have hwr : wrap64 (4096 - f) = 4096 - f := by unfold wrap64; omega
    have xC := cC W (Below.refl _ _)
    clear cC
    go_wp2_with (go_at_call 13; (refine xC.mono ?_); rintro e' w6 ⟨rfl, hb6⟩)
    go_ret
    exact ⟨rfl, bthen hL0.out.b hb6⟩
  have d0 : decide (f < 0) = false := decide_eq_false f0
  have d1 : decide (m < 0) = false := decide_eq_false m0
  have d2 : decide (4096 < f) = false := decide_eq_false f1
  have d3 : decide (4096 - f < m) = false := decide_eq_false m1
  have hwr : wrap64 (4096 - f) = 4096 - f := by unfold wrap64; omega
  have hwa : wrap64 (f + m) = f + m := by unfold wrap64; omega
  by_cases hv : validS M.pr s
  rotate_left
  · obtain ⟨p0, p1, p2, p3⟩ := hL0.out.a.p
    have zg := hL0.out.a.g hsH.out
    have zf := hL0.out.a.f hsH.out
    have zc := hL0.out.a.c hsH.out
    have rS : Hid (W.rangeAt w.heap.size 4 s.cells) := hL0.out.a.s
    have xV := rvalid_any M s hsH.out W (hMH.out.later hL0.out.b) false ⟨fun q => (by cases q), fun q => absurd q hv⟩
    go_wp2_with (first
      | ((with_reducible refine at_load 38 _ rfl ?_); refine stop_out ?_; (refine wpList_load_h 38 _ rfl w.heap.size 4 rfl (by kernel_rfl) s.cells _ rS.out huS.out rfl hinL.out ?_); (simp only [Act.put, List.setIfInBounds_toArray, List.set_cons_zero, List.set_cons_succ]))
      | (go_at_call 17; (refine xV.mono ?_); rintro e' w2 ⟨rfl, hb2⟩; (have hL2 : Hid (Lw w w2 M s g f) := hL0.out.later hb2); clear p0 p1 p2 p3 zg zf zc rS; (have zg := hL2.out.a.g hsH.out); (have zf := hL2.out.a.f hsH.out); (have zc := hL2.out.a.c hsH.out); (have cC2 := cC w2 hb2))
      | (go_at_call 13; (refine cC2.mono ?_); rintro e' w6 ⟨rfl, hb6⟩))
    go_ret
    exact ⟨rfl, bthen hL2.out.b hb6⟩
  by_cases g0 : g < 0
  · obtain ⟨p0, p1, p2, p3⟩ := hL0.out.a.p
    have zg := hL0.out.a.g hsH.out
    have zf := hL0.out.a.f hsH.out
    have zc := hL0.out.a.c hsH.out
    have rS : Hid (W.rangeAt w.heap.size 4 s.cells) := hL0.out.a.s
    have xV := rvalid_any M s hsH.out W (hMH.out.later hL0.out.b) true ⟨fun _ => hv, fun _ => rfl⟩
    have d4 : decide (g < 0) = true := decide_eq_true g0
    go_wp2_with (first
      | ((with_reducible refine at_load 38 _ rfl ?_); refine stop_out ?_; (refine wpList_load_h 38 _ rfl w.heap.size 4 rfl (by kernel_rfl) s.cells _ rS.out huS.out rfl hinL.out ?_); (simp only [Act.put, List.setIfInBounds_toArray, List.set_cons_zero, List.set_cons_succ]))
      | (go_at_call 17; (refine xV.mono ?_); rintro e' w2 ⟨rfl, hb2⟩; (have hL2 : Hid (Lw w w2 M s g f) := hL0.out.later hb2); clear p0 p1 p2 p3 zg zf zc rS; (have zg := hL2.out.a.g hsH.out); (have zf := hL2.out.a.f hsH.out); (have zc := hL2.out.a.c hsH.out); (have cC2 := cC w2 hb2))
      | (go_at_call 13; (refine cC2.mono ?_); rintro e' w6 ⟨rfl, hb6⟩))
    go_ret
    exact ⟨rfl, bthen hL2.out.b hb6⟩
  by_cases g1 : s.cnt ≤ g
  · obtain ⟨p0, p1, p2, p3⟩ := hL0.out.a.p
    have zg := hL0.out.a.g hsH.out
    have zf := hL0.out.a.f hsH.out
    have zc := hL0.out.a.c hsH.out
    have rS : Hid (W.rangeAt w.heap.size 4 s.cells) := hL0.out.a.s
    have xV := rvalid_any M s hsH.out W (hMH.out.later hL0.out.b) true ⟨fun _ => hv, fun _ => rfl⟩
    have d4 : decide (g < 0) = false := decide_eq_false g0
    have d5 : decide (s.cnt ≤ g) = true := decide_eq_true g1
    go_wp2_with (first
      | ((with_reducible refine at_load 38 _ rfl ?_); refine stop_out ?_; (refine wpList_load_h 38 _ rfl w.heap.size 4 rfl (by kernel_rfl) s.cells _ rS.out huS.out rfl hinL.out ?_); (simp only [Act.put, List.setIfInBounds_toArray, List.set_cons_zero, List.set_cons_succ]))
      | (go_at_call 17; (refine xV.mono ?_); rintro e' w2 ⟨rfl, hb2⟩; (have hL2 : Hid (Lw w w2 M s g f) := hL0.out.later hb2); clear p0 p1 p2 p3 zg zf zc rS; (have zg := hL2.out.a.g hsH.out); (have zf := hL2.out.a.f hsH.out); (have zc := hL2.out.a.c hsH.out); (have cC2 := cC w2 hb2))
      | (go_at_call 13; (refine cC2.mono ?_); rintro e' w6 ⟨rfl, hb6⟩))
    go_ret
    exact ⟨rfl, bthen hL2.out.b hb6⟩
  have d4 : decide (g < 0) = false := decide_eq_false g0
  have d5 : decide (s.cnt ≤ g) = false := decide_eq_false g1
  obtain ⟨x, y, e1, e2, e3, xw, yw⟩ := sums_pack hsH.out (prI_of hMH.out) hv (g := g) (f := f) (m := m) (by omega) (by omega) (by omega) (by omega) (by omega)
  have heq := eql_st yw.out yw.out true (by simp)
  have xV := rvalid_any M s hsH.out W (hMH.out.later hL0.out.b) true ⟨fun _ => hv, fun _ => rfl⟩
  obtain ⟨p0, p1, p2, p3⟩ := hL0.out.a.p
  have zg := hL0.out.a.g hsH.out
  have zf := hL0.out.a.f hsH.out
  have zc := hL0.out.a.c hsH.out
  have rS : Hid (W.rangeAt w.heap.size 4 s.cells) := hL0.out.a.s
  go_upto_region 3 with (first
    | ((with_reducible refine at_load 38 _ rfl ?_); refine stop_out ?_; (refine wpList_load_h 38 _ rfl w.heap.size 4 rfl (by kernel_rfl) s.cells _ rS.out huS.out rfl hinL.out ?_); (simp only [Act.put, List.setIfInBounds_toArray, List.set_cons_zero, List.set_cons_succ]))
    | (go_at_call 17; (refine xV.mono ?_); rintro e' w2 ⟨rfl, hb2⟩; (have hL9 : Hid (Lw w w2 M s g f) := hL0.out.later hb2); clear p0 p1 p2 p3 zg zf zc rS; (have zg := hL9.out.a.g hsH.out); (have zf := hL9.out.a.f hsH.out); (have zc := hL9.out.a.c hsH.out)))
  clear zg zf zc xV hb2 cC d0 d1 d2 d3 d4 d5 hv f0 f1 m0 m1 g0 g1 hwr
  have xA := settle_any M s hsH.out g f w2 (hMH.out.later hL9.out.b) (hFH.out.later hL9.out.b) x 0 e1
  obtain ⟨p0, p1, p2, p3⟩ := hL9.out.a.p
  have zg := hL9.out.a.g hsH.out
  have zf := hL9.out.a.f hsH.out
  have zc := hL9.out.a.c hsH.out
  have rS : Hid (w2.rangeAt w.heap.size 4 s.cells) := hL9.out.a.s
  go_upto_region 4 with (first
    | (refine wpList_load_mid rfl 38 _ rfl w.heap.size 4 rfl s.cells _ rS.out huS.out rfl hinL.out ?_)
    | (go_at_call 14; (refine xA.mono ?_); rintro e' wq1 ⟨rfl, hb1⟩; (have hzi : (wq1.alloc (objSt zeroS)).heap[wq1.heap.size]? = some (objSt zeroS) := heap_alloc_new wq1 _))
    | (refine wpList_alloc_big rfl 38 rfl zv_S ?_)
    | (refine wpList_store_row rfl 38 _ _ rfl wq1.heap.size x.cells.toArray rfl rfl _ _ hzi (infoS xw.out) (sizeSS zeroS_wf xw.out) (oneS x) ?_))
  try simp only [Act.put, List.setIfInBounds_toArray, List.set_cons_zero, List.set_cons_succ]
  have hT1 : Hid (InS ((wq1.alloc (objSt zeroS)).setRow wq1.heap.size x.cells.toArray) wq1.heap.size x) := setRow_heap _ _ _ _ _ _ hzi
  have hB1 : Hid (Below w2.heap.size w2 ((wq1.alloc (objSt zeroS)).setRow wq1.heap.size x.cells.toArray)) := below_setRowG (bthen hb1 (boxed _ _)) hb1.size _
  generalize (wq1.alloc (objSt zeroS)).setRow wq1.heap.size x.cells.toArray = V1 at *
  generalize wq1.heap.size = TB1 at *
  clear hzi hb1
  clear p0 p1 p2 p3 zg zf zc rS
  have hL1 : Hid (Lw w V1 M s g f) := hL9.out.later hB1.out
  have xB := settle_any M x xw.out g m V1 (hMH.out.later hL1.out.b) (hFH.out.later hL1.out.b) y 0 e2
  have hS1 : InS V1 TB1 x := hT1.out
  clear xA
  obtain ⟨p0, p1, p2, p3⟩ := hL1.out.a.p
  have zg := hL1.out.a.g hsH.out
  have zf := hL1.out.a.f hsH.out
  have zc := hL1.out.a.c hsH.out
  have rS : Hid (V1.rangeAt w.heap.size 4 s.cells) := hL1.out.a.s
  go_upto_region 5 with (first
    | (refine wpList_load_row rfl 38 _ rfl TB1 rfl _ _ _ _ hS1 huS.out rfl (infoS xw.out) ?_)
    | (go_at_call 14; (refine xB.mono ?_); rintro e' wq2 ⟨rfl, hb2⟩; (have hzi : (wq2.alloc (objSt zeroS)).heap[wq2.heap.size]? = some (objSt zeroS) := heap_alloc_new wq2 _))
    | (refine wpList_alloc_big rfl 38 rfl zv_S ?_)
    | (refine wpList_store_row rfl 38 _ _ rfl wq2.heap.size y.cells.toArray rfl rfl _ _ hzi (infoS yw.out) (sizeSS zeroS_wf yw.out) (oneS y) ?_))
  try simp only [Act.put, List.setIfInBounds_toArray, List.set_cons_zero, List.set_cons_succ]
  have hT2 : Hid (InS ((wq2.alloc (objSt zeroS)).setRow wq2.heap.size y.cells.toArray) wq2.heap.size y) := setRow_heap _ _ _ _ _ _ hzi
  have hB2 : Hid (Below V1.heap.size V1 ((wq2.alloc (objSt zeroS)).setRow wq2.heap.size y.cells.toArray)) := below_setRowG (bthen hb2 (boxed _ _)) hb2.size _
  generalize (wq2.alloc (objSt zeroS)).setRow wq2.heap.size y.cells.toArray = V2 at *
  generalize wq2.heap.size = TB2 at *
  clear hzi hb2
  clear p0 p1 p2 p3 zg zf zc rS
  have hL2 : Hid (Lw w V2 M s g f) := hL1.out.later hB2.out
  have xD := settle_any M s hsH.out g (f + m) V2 (hMH.out.later hL2.out.b) (hFH.out.later hL2.out.b) y 0 e3
  clear xB hS1
  obtain ⟨p0, p1, p2, p3⟩ := hL2.out.a.p
  have zg := hL2.out.a.g hsH.out
  have zf := hL2.out.a.f hsH.out
  have zc := hL2.out.a.c hsH.out
  have rS : Hid (V2.rangeAt w.heap.size 4 s.cells) := hL2.out.a.s
  go_upto_region 6 with (first
    | (refine wpList_load_mid rfl 38 _ rfl w.heap.size 4 rfl s.cells _ rS.out huS.out rfl hinL.out ?_)
    | (go_at_call 14; (refine xD.mono ?_); rintro e' wq3 ⟨rfl, hb3⟩; (have hzi : (wq3.alloc (objSt zeroS)).heap[wq3.heap.size]? = some (objSt zeroS) := heap_alloc_new wq3 _))
    | (refine wpList_alloc_big rfl 38 rfl zv_S ?_)
    | (refine wpList_store_row rfl 38 _ _ rfl wq3.heap.size y.cells.toArray rfl rfl _ _ hzi (infoS yw.out) (sizeSS zeroS_wf yw.out) (oneS y) ?_))
  try simp only [Act.put, List.setIfInBounds_toArray, List.set_cons_zero, List.set_cons_succ]
  have hT3 : Hid (InS ((wq3.alloc (objSt zeroS)).setRow wq3.heap.size y.cells.toArray) wq3.heap.size y) := setRow_heap _ _ _ _ _ _ hzi
  have hB3 : Hid (Below V2.heap.size V2 ((wq3.alloc (objSt zeroS)).setRow wq3.heap.size y.cells.toArray)) := below_setRowG (bthen hb3 (boxed _ _)) hb3.size _
  generalize (wq3.alloc (objSt zeroS)).setRow wq3.heap.size y.cells.toArray = V3 at *
  generalize wq3.heap.size = TB3 at *
  clear hzi hb3
  clear p0 p1 p2 p3 zg zf zc rS
  have hL3 : Hid (Lw w V3 M s g f) := hL2.out.later hB3.out
  have rTB2 : Hid (V3.rangeAt TB2 0 y.cells) := range_of (hT2.out.later hB3.out) [] y.cells [] (by simp) 0 rfl
  have rTB3 : Hid (V3.rangeAt TB3 0 y.cells) := range_of hT3.out [] y.cells [] (by simp) 0 rfl
  clear xD e1 e2 e3
  go_wp2_with (first
    | ((with_reducible refine at_load 38 _ rfl ?_); refine stop_out ?_; (refine wpList_load_h 38 _ rfl TB2 0 rfl (by kernel_rfl) y.cells _ rTB2.out huS.out rfl (by have := infoS yw.out; rwa [List.size_toArray] at this) ?_); (simp only [Act.put, List.setIfInBounds_toArray, List.set_cons_zero, List.set_cons_succ]))
    | ((with_reducible refine at_load 38 _ rfl ?_); refine stop_out ?_; (refine wpList_load_h 38 _ rfl TB3 0 rfl (by kernel_rfl) y.cells _ rTB3.out huS.out rfl (by have := infoS yw.out; rwa [List.size_toArray] at this) ?_); (simp only [Act.put, List.setIfInBounds_toArray, List.set_cons_zero, List.set_cons_succ]))
    | ((with_reducible refine at_eql 38 _ _ _ rfl ?_); refine stop_out ?_; (refine wpList_eql_g 38 _ _ _ rfl (by kernel_rfl) y.cells.toArray y.cells.toArray rfl rfl hqS.out _ heq ?_); (simp only [Act.put, List.setIfInBounds_toArray, List.set_cons_zero, List.set_cons_succ])))
  go_ret
  exact ⟨rfl, hL3.out.b⟩
end Go.Proofs.YtjcmhaaohdmjpaaDoor.pg
