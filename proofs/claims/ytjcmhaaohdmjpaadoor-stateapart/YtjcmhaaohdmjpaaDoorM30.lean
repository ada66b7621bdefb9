/- StateApart, walked. -/
import Derived.Test.YtjcmhaaohdmjpaaDoorM29
namespace Go.Proofs.YtjcmhaaohdmjpaaDoor.pg
open Go.ChangeShapes Go.WideShapes Go.ChangeAt Go.RowKit
set_option linter.unusedVariables false
set_option linter.unusedSimpArgs false
set_option maxRecDepth 100000
set_option maxHeartbeats 6000000 in
theorem apart_any (M : MPr) (s : Sts) (hs : s.wf) (g f : Int) (h : Int) (w : World) (hM : M.lies w) (hF : prog.Forms w) :
    Calls Tryd.prog 8 #[caseV M s g f, .int .i64 h] w fun e w' => e = .returned (.bool true) ∧ Below w.heap.size w w' := by
  have hL0 : Hid (Lw w (w.alloc (objCa M s g f)) M s g f) := ⟨boxed _ _, inCa_new _ _ _ _ _⟩
  have hMH : Hid (M.lies w) := hM
  have hFH : Hid (prog.Forms w) := hF
  have hsH : Hid s.wf := hs
  have huS : Hid (Tryd.prog.underlying 38 = _) := Tryd.underlying38
  have hinL : Hid ((Tryd.prog.info? 38).map (·.size) = some s.cells.length) := by have := infoS hs; rwa [List.size_toArray] at this
  clear hM hF hs
  go_enter Tryd.func8, Tryd.ntmps8
  go_upto_region 1 with fail
  generalize w.alloc (objCa M s g f) = W at *
  have hqS : Hid (Tryd.prog.eqGuardType Tryd.prog.depth 38 = false) := by show _ = _; kernel_rfl
  have cC : ∀ V, Below W.heap.size W V → Calls Tryd.prog 13 #[] V fun e w' => e = .returned (.bool true) ∧ Below V.heap.size V w' := fun V hV => smallS_any V (hFH.out.later (bthen hL0.out.b hV))
  by_cases hv : validS M.pr s
  rotate_left
  · obtain ⟨p0, p1, p2, p3⟩ := hL0.out.a.p
    have zg := hL0.out.a.g hsH.out
    have zf := hL0.out.a.f hsH.out
    have zc := hL0.out.a.c hsH.out
    have rS : Hid (W.rangeAt w.heap.size 4 s.cells) := hL0.out.a.s
    have xV := rvalid_any M s hsH.out W (hMH.out.later hL0.out.b) false ⟨fun q => (by cases q), fun q => absurd q hv⟩
    go_wp2_with (first
      | (refine wpList_load_mid rfl 38 _ rfl w.heap.size 4 rfl s.cells _ rS.out huS.out rfl hinL.out ?_)
      | (go_at_call 17; (refine xV.mono ?_); rintro e' w2 ⟨rfl, hb2⟩; (have hL2 : Hid (Lw w w2 M s g f) := hL0.out.later hb2); clear p0 p1 p2 p3 zg zf zc rS; (have zg := hL2.out.a.g hsH.out); (have zf := hL2.out.a.f hsH.out); (have zc := hL2.out.a.c hsH.out); (have cC2 := cC w2 hb2))
      | (go_at_call 13; (refine cC2.mono ?_); rintro e' w6 ⟨rfl, hb6⟩))
    go_ret
    exact ⟨rfl, bthen hL2.out.b hb6⟩
  by_cases g0 : g < 0
  · obtain ⟨p0, p1, p2, p3⟩ := hL0.out.a.p
    have zg := hL0.out.a.g hsH.out
    have zf := hL0.out.a.f hsH.out
    have zc := hL0.out.a.c hsH.out
    have rS : Hid (W.rangeAt w.heap.size 4 s.cells) := hL0.out.a.s
    have xV := rvalid_any M s hsH.out W (hMH.out.later hL0.out.b) true ⟨fun _ => hv, fun _ => rfl⟩
    have d0 : decide (g < 0) = true := decide_eq_true g0
    go_wp2_with (first
      | (refine wpList_load_mid rfl 38 _ rfl w.heap.size 4 rfl s.cells _ rS.out huS.out rfl hinL.out ?_)
      | (go_at_call 17; (refine xV.mono ?_); rintro e' w2 ⟨rfl, hb2⟩; (have hL2 : Hid (Lw w w2 M s g f) := hL0.out.later hb2); clear p0 p1 p2 p3 zg zf zc rS; (have zg := hL2.out.a.g hsH.out); (have zf := hL2.out.a.f hsH.out); (have zc := hL2.out.a.c hsH.out); (have cC2 := cC w2 hb2))
      | (go_at_call 13; (refine cC2.mono ?_); rintro e' w6 ⟨rfl, hb6⟩))
    go_ret
    exact ⟨rfl, bthen hL2.out.b hb6⟩
  by_cases g1 : s.cnt ≤ g
  · obtain ⟨p0, p1, p2, p3⟩ := hL0.out.a.p
    have zg := hL0.out.a.g hsH.out
    have zf := hL0.out.a.f hsH.out
    have zc := hL0.out.a.c hsH.out
    have rS : Hid (W.rangeAt w.heap.size 4 s.cells) := hL0.out.a.s
    have xV := rvalid_any M s hsH.out W (hMH.out.later hL0.out.b) true ⟨fun _ => hv, fun _ => rfl⟩
    have d0 : decide (g < 0) = false := decide_eq_false g0
    have d1 : decide (s.cnt ≤ g) = true := decide_eq_true g1
    go_wp2_with (first
      | (refine wpList_load_mid rfl 38 _ rfl w.heap.size 4 rfl s.cells _ rS.out huS.out rfl hinL.out ?_)
      | (go_at_call 17; (refine xV.mono ?_); rintro e' w2 ⟨rfl, hb2⟩; (have hL2 : Hid (Lw w w2 M s g f) := hL0.out.later hb2); clear p0 p1 p2 p3 zg zf zc rS; (have zg := hL2.out.a.g hsH.out); (have zf := hL2.out.a.f hsH.out); (have zc := hL2.out.a.c hsH.out); (have cC2 := cC w2 hb2))
      | (go_at_call 13; (refine cC2.mono ?_); rintro e' w6 ⟨rfl, hb6⟩))
    go_ret
    exact ⟨rfl, bthen hL2.out.b hb6⟩
  by_cases h0 : h < 0
  · obtain ⟨p0, p1, p2, p3⟩ := hL0.out.a.p
    have zg := hL0.out.a.g hsH.out
    have zf := hL0.out.a.f hsH.out
    have zc := hL0.out.a.c hsH.out
    have rS : Hid (W.rangeAt w.heap.size 4 s.cells) := hL0.out.a.s
    have xV := rvalid_any M s hsH.out W (hMH.out.later hL0.out.b) true ⟨fun _ => hv, fun _ => rfl⟩
    have d0 : decide (g < 0) = false := decide_eq_false g0
    have d1 : decide (s.cnt ≤ g) = false := decide_eq_false g1
    have d2 : decide (h < 0) = true := decide_eq_true h0
    go_wp2_with (first
      | (refine wpList_load_mid rfl 38 _ rfl w.heap.size 4 rfl s.cells _ rS.out huS.out rfl hinL.out ?_)
      | (go_at_call 17; (refine xV.mono ?_); rintro e' w2 ⟨rfl, hb2⟩; (have hL2 : Hid (Lw w w2 M s g f) := hL0.out.later hb2); clear p0 p1 p2 p3 zg zf zc rS; (have zg := hL2.out.a.g hsH.out); (have zf := hL2.out.a.f hsH.out); (have zc := hL2.out.a.c hsH.out); (have cC2 := cC w2 hb2))
      | (go_at_call 13; (refine cC2.mono ?_); rintro e' w6 ⟨rfl, hb6⟩))
    go_ret
    exact ⟨rfl, bthen hL2.out.b hb6⟩
  by_cases h1 : s.cnt ≤ h
  · obtain ⟨p0, p1, p2, p3⟩ := hL0.out.a.p
    have zg := hL0.out.a.g hsH.out
    have zf := hL0.out.a.f hsH.out
    have zc := hL0.out.a.c hsH.out
    have rS : Hid (W.rangeAt w.heap.size 4 s.cells) := hL0.out.a.s
    have xV := rvalid_any M s hsH.out W (hMH.out.later hL0.out.b) true ⟨fun _ => hv, fun _ => rfl⟩
    have d0 : decide (g < 0) = false := decide_eq_false g0
    have d1 : decide (s.cnt ≤ g) = false := decide_eq_false g1
    have d2 : decide (h < 0) = false := decide_eq_false h0
    have d3 : decide (s.cnt ≤ h) = true := decide_eq_true h1
    go_wp2_with (first
      | (refine wpList_load_mid rfl 38 _ rfl w.heap.size 4 rfl s.cells _ rS.out huS.out rfl hinL.out ?_)
      | (go_at_call 17; (refine xV.mono ?_); rintro e' w2 ⟨rfl, hb2⟩; (have hL2 : Hid (Lw w w2 M s g f) := hL0.out.later hb2); clear p0 p1 p2 p3 zg zf zc rS; (have zg := hL2.out.a.g hsH.out); (have zf := hL2.out.a.f hsH.out); (have zc := hL2.out.a.c hsH.out); (have cC2 := cC w2 hb2))
      | (go_at_call 13; (refine cC2.mono ?_); rintro e' w6 ⟨rfl, hb6⟩))
    go_ret
    exact ⟨rfl, bthen hL2.out.b hb6⟩
  by_cases f0 : f < 0
  · obtain ⟨p0, p1, p2, p3⟩ := hL0.out.a.p
    have zg := hL0.out.a.g hsH.out
    have zf := hL0.out.a.f hsH.out
    have zc := hL0.out.a.c hsH.out
    have rS : Hid (W.rangeAt w.heap.size 4 s.cells) := hL0.out.a.s
    have xV := rvalid_any M s hsH.out W (hMH.out.later hL0.out.b) true ⟨fun _ => hv, fun _ => rfl⟩
    have d0 : decide (g < 0) = false := decide_eq_false g0
    have d1 : decide (s.cnt ≤ g) = false := decide_eq_false g1
    have d2 : decide (h < 0) = false := decide_eq_false h0
    have d3 : decide (s.cnt ≤ h) = false := decide_eq_false h1
    have d4 : decide (f < 0) = true := decide_eq_true f0
    go_wp2_with (first
      | (refine wpList_load_mid rfl 38 _ rfl w.heap.size 4 rfl s.cells _ rS.out huS.out rfl hinL.out ?_)
      | (go_at_call 17; (refine xV.mono ?_); rintro e' w2 ⟨rfl, hb2⟩; (have hL2 : Hid (Lw w w2 M s g f) := hL0.out.later hb2); clear p0 p1 p2 p3 zg zf zc rS; (have zg := hL2.out.a.g hsH.out); (have zf := hL2.out.a.f hsH.out); (have zc := hL2.out.a.c hsH.out); (have cC2 := cC w2 hb2))
      | (go_at_call 13; (refine cC2.mono ?_); rintro e' w6 ⟨rfl, hb6⟩))
    go_ret
    exact ⟨rfl, bthen hL2.out.b hb6⟩
  by_cases f1 : 4096 < f
  · obtain ⟨p0, p1, p2, p3⟩ := hL0.out.a.p
    have zg := hL0.out.a.g hsH.out
    have zf := hL0.out.a.f hsH.out
    have zc := hL0.out.a.c hsH.out
    have rS : Hid (W.rangeAt w.heap.size 4 s.cells) := hL0.out.a.s
    have xV := rvalid_any M s hsH.out W (hMH.out.later hL0.out.b) true ⟨fun _ => hv, fun _ => rfl⟩
    have d0 : decide (g < 0) = false := decide_eq_false g0
    have d1 : decide (s.cnt ≤ g) = false := decide_eq_false g1
    have d2 : decide (h < 0) = false := decide_eq_false h0
    have d3 : decide (s.cnt ≤ h) = false := decide_eq_false h1
    have d4 : decide (f < 0) = false := decide_eq_false f0
    have d5 : decide (4096 < f) = true := decide_eq_true f1
    go_wp2_with (first
      | (refine wpList_load_mid rfl 38 _ rfl w.heap.size 4 rfl s.cells _ rS.out huS.out rfl hinL.out ?_)
      | (go_at_call 17; (refine xV.mono ?_); rintro e' w2 ⟨rfl, hb2⟩; (have hL2 : Hid (Lw w w2 M s g f) := hL0.out.later hb2); clear p0 p1 p2 p3 zg zf zc rS; (have zg := hL2.out.a.g hsH.out); (have zf := hL2.out.a.f hsH.out); (have zc := hL2.out.a.c hsH.out); (have cC2 := cC w2 hb2))
      | (go_at_call 13; (refine cC2.mono ?_); rintro e' w6 ⟨rfl, hb6⟩))
    go_ret
    exact ⟨rfl, bthen hL2.out.b hb6⟩
  have d0 : decide (g < 0) = false := decide_eq_false g0
  have d1 : decide (s.cnt ≤ g) = false := decide_eq_false g1
  have d2 : decide (h < 0) = false := decide_eq_false h0
  have d3 : decide (s.cnt ≤ h) = false := decide_eq_false h1
  have d4 : decide (f < 0) = false := decide_eq_false f0
  have d5 : decide (4096 < f) = false := decide_eq_false f1
  by_cases e0 : g = h
  · obtain ⟨p0, p1, p2, p3⟩ := hL0.out.a.p
    have zg := hL0.out.a.g hsH.out
    have zf := hL0.out.a.f hsH.out
    have zc := hL0.out.a.c hsH.out
    have rS : Hid (W.rangeAt w.heap.size 4 s.cells) := hL0.out.a.s
    have xV := rvalid_any M s hsH.out W (hMH.out.later hL0.out.b) true ⟨fun _ => hv, fun _ => rfl⟩
    subst e0
    go_wp2_with (first
      | (refine wpList_load_mid rfl 38 _ rfl w.heap.size 4 rfl s.cells _ rS.out huS.out rfl hinL.out ?_)
      | (go_at_call 17; (refine xV.mono ?_); rintro e' w2 ⟨rfl, hb2⟩; (have hL2 : Hid (Lw w w2 M s g f) := hL0.out.later hb2); clear p0 p1 p2 p3 zg zf zc rS; (have zg := hL2.out.a.g hsH.out); (have zf := hL2.out.a.f hsH.out); (have zc := hL2.out.a.c hsH.out); (have cC2 := cC w2 hb2))
      | (go_at_call 13; (refine cC2.mono ?_); rintro e' w6 ⟨rfl, hb6⟩))
    go_ret
    exact ⟨rfl, bthen hL2.out.b hb6⟩
  have d6 : (g == h) = false := by simpa using e0
  obtain ⟨x, y, z, e1, e2, e3, e4, xw, yw, zw⟩ := apart_pack hsH.out (prI_of hMH.out) hv (g := g) (h := h) (f := f) (by omega) (by omega) (by omega) (by omega) e0 (by omega) (by omega)
  have heq := eql_st zw.out zw.out true (by simp)
  have xV := rvalid_any M s hsH.out W (hMH.out.later hL0.out.b) true ⟨fun _ => hv, fun _ => rfl⟩
  obtain ⟨p0, p1, p2, p3⟩ := hL0.out.a.p
  have zg := hL0.out.a.g hsH.out
  have zf := hL0.out.a.f hsH.out
  have zc := hL0.out.a.c hsH.out
  have rS : Hid (W.rangeAt w.heap.size 4 s.cells) := hL0.out.a.s
  go_upto_region 5 with (first
    | (refine wpList_load_mid rfl 38 _ rfl w.heap.size 4 rfl s.cells _ rS.out huS.out rfl hinL.out ?_)
    | (go_at_call 17; (refine xV.mono ?_); rintro e' w2 ⟨rfl, hb2⟩; (have hL9 : Hid (Lw w w2 M s g f) := hL0.out.later hb2); clear p0 p1 p2 p3 zg zf zc rS; (have zg := hL9.out.a.g hsH.out); (have zf := hL9.out.a.f hsH.out); (have zc := hL9.out.a.c hsH.out)))
  clear zg zf zc xV hb2 cC d0 d1 d2 d3 d4 d5 d6 hv f0 f1 h0 h1 g0 g1 e0
  have xA := settle_any M s hsH.out g f w2 (hMH.out.later hL9.out.b) (hFH.out.later hL9.out.b) x 0 e1
  obtain ⟨p0, p1, p2, p3⟩ := hL9.out.a.p
  have zg := hL9.out.a.g hsH.out
  have zf := hL9.out.a.f hsH.out
  have zc := hL9.out.a.c hsH.out
  have rS : Hid (w2.rangeAt w.heap.size 4 s.cells) := hL9.out.a.s
  go_upto_region 6 with (first
    | (refine wpList_load_mid rfl 38 _ rfl w.heap.size 4 rfl s.cells _ rS.out huS.out rfl hinL.out ?_)
    | (go_at_call 14; (refine xA.mono ?_); rintro e' wq1 ⟨rfl, hb1⟩; (have hzi : (wq1.alloc (objSt zeroS)).heap[wq1.heap.size]? = some (objSt zeroS) := heap_alloc_new wq1 _))
    | (refine wpList_alloc_big rfl 38 rfl zv_S ?_)
    | (refine wpList_store_row rfl 38 _ _ rfl wq1.heap.size x.cells.toArray rfl rfl _ _ hzi (infoS xw.out) (sizeSS zeroS_wf xw.out) (oneS x) ?_))
  try simp only [Act.put, List.setIfInBounds_toArray, List.set_cons_zero, List.set_cons_succ]
  have hN1 : Hid (w2.heap.size ≤ wq1.heap.size) := hb1.size
  have hT1 : Hid (InS ((wq1.alloc (objSt zeroS)).setRow wq1.heap.size x.cells.toArray) wq1.heap.size x) := setRow_heap _ _ _ _ _ _ hzi
  have hB1 : Hid (Below w2.heap.size w2 ((wq1.alloc (objSt zeroS)).setRow wq1.heap.size x.cells.toArray)) := below_setRowG (bthen hb1 (boxed _ _)) hb1.size _
  generalize (wq1.alloc (objSt zeroS)).setRow wq1.heap.size x.cells.toArray = V1 at *
  generalize wq1.heap.size = TB1 at *
  clear hzi hb1
  clear p0 p1 p2 p3 zg zf zc rS
  have hL1 : Hid (Lw w V1 M s g f) := hL9.out.later hB1.out
  have xB := settle_any M x xw.out h f V1 (hMH.out.later hL1.out.b) (hFH.out.later hL1.out.b) z 0 e2
  have hS1 : InS V1 TB1 x := hT1.out
  have hNa : Hid (w.heap.size < TB1) := by have h1 := hN1.out; have h2 := hL9.out.a.lt; show w.heap.size < TB1; omega
  clear xA
  obtain ⟨p0, p1, p2, p3⟩ := hL1.out.a.p
  have zg := hL1.out.a.g hsH.out
  have zf := hL1.out.a.f hsH.out
  have zc := hL1.out.a.c hsH.out
  have rS : Hid (V1.rangeAt w.heap.size 4 s.cells) := hL1.out.a.s
  go_upto_region 7 with (first
    | (refine wpList_load_row rfl 38 _ rfl TB1 rfl _ _ _ _ hS1 huS.out rfl (infoS xw.out) ?_)
    | (go_at_call 14; (refine xB.mono ?_); rintro e' wq2 ⟨rfl, hb2⟩; (have hzi := hT1.out.later hb2))
    | (refine wpList_store_row rfl 38 _ _ rfl TB1 z.cells.toArray rfl rfl _ _ hzi (infoS zw.out) (sizeSS xw.out zw.out) (oneS z) ?_))
  try simp only [Act.put, List.setIfInBounds_toArray, List.set_cons_zero, List.set_cons_succ]
  have hT2 : Hid (InS (wq2.setRow TB1 z.cells.toArray) TB1 z) := setRow_heap _ _ _ _ _ _ hzi
  have hO2 : Hid (∀ B y, B ≠ TB1 → InS V1 B y → InS (wq2.setRow TB1 z.cells.toArray) B y) := fun B y hne h => (setRow_other _ _ _ _ hne).trans (h.later hb2)
  have hL2 : Hid (Lw w (wq2.setRow TB1 z.cells.toArray) M s g f) := ⟨below_setRowG (bthen hL1.out.b hb2) (by have := hNa.out; omega) _, (setRow_other _ _ _ _ (by have := hNa.out; omega)).trans (hL1.out.a.later hb2)⟩
  generalize wq2.setRow TB1 z.cells.toArray = V2 at *
  clear hzi hb2
  clear p0 p1 p2 p3 zg zf zc rS
  have xD := settle_any M s hsH.out h f V2 (hMH.out.later hL2.out.b) (hFH.out.later hL2.out.b) y 0 e3
  clear xB hS1
  obtain ⟨p0, p1, p2, p3⟩ := hL2.out.a.p
  have zg := hL2.out.a.g hsH.out
  have zf := hL2.out.a.f hsH.out
  have zc := hL2.out.a.c hsH.out
  have rS : Hid (V2.rangeAt w.heap.size 4 s.cells) := hL2.out.a.s
  go_upto_region 8 with (first
    | (refine wpList_load_mid rfl 38 _ rfl w.heap.size 4 rfl s.cells _ rS.out huS.out rfl hinL.out ?_)
    | (go_at_call 14; (refine xD.mono ?_); rintro e' wq3 ⟨rfl, hb3⟩; (have hzi : (wq3.alloc (objSt zeroS)).heap[wq3.heap.size]? = some (objSt zeroS) := heap_alloc_new wq3 _))
    | (refine wpList_alloc_big rfl 38 rfl zv_S ?_)
    | (refine wpList_store_row rfl 38 _ _ rfl wq3.heap.size y.cells.toArray rfl rfl _ _ hzi (infoS yw.out) (sizeSS zeroS_wf yw.out) (oneS y) ?_))
  try simp only [Act.put, List.setIfInBounds_toArray, List.set_cons_zero, List.set_cons_succ]
  have hN3 : Hid (V2.heap.size ≤ wq3.heap.size) := hb3.size
  have hT3 : Hid (InS ((wq3.alloc (objSt zeroS)).setRow wq3.heap.size y.cells.toArray) wq3.heap.size y) := setRow_heap _ _ _ _ _ _ hzi
  have hB3 : Hid (Below V2.heap.size V2 ((wq3.alloc (objSt zeroS)).setRow wq3.heap.size y.cells.toArray)) := below_setRowG (bthen hb3 (boxed _ _)) hb3.size _
  generalize (wq3.alloc (objSt zeroS)).setRow wq3.heap.size y.cells.toArray = V3 at *
  generalize wq3.heap.size = TB3 at *
  clear hzi hb3
  clear p0 p1 p2 p3 zg zf zc rS
  have hL3 : Hid (Lw w V3 M s g f) := hL2.out.later hB3.out
  have xE := settle_any M y yw.out g f V3 (hMH.out.later hL3.out.b) (hFH.out.later hL3.out.b) z 0 e4
  have hS3 : InS V3 TB3 y := hT3.out
  have hNb : Hid (w.heap.size < TB3) := by have h1 := hN3.out; have h2 := hL2.out.a.lt; show w.heap.size < TB3; omega
  have hlt : Hid (TB1 < TB3) := by have h1 := hT2.out.lt; have h2 := hN3.out; show TB1 < TB3; omega
  have hK1 : Hid (InS V3 TB1 z) := hT2.out.later hB3.out
  clear xD
  obtain ⟨p0, p1, p2, p3⟩ := hL3.out.a.p
  have zg := hL3.out.a.g hsH.out
  have zf := hL3.out.a.f hsH.out
  have zc := hL3.out.a.c hsH.out
  have rS : Hid (V3.rangeAt w.heap.size 4 s.cells) := hL3.out.a.s
  go_upto_region 9 with (first
    | (refine wpList_load_row rfl 38 _ rfl TB3 rfl _ _ _ _ hS3 huS.out rfl (infoS yw.out) ?_)
    | (go_at_call 14; (refine xE.mono ?_); rintro e' wq4 ⟨rfl, hb4⟩; (have hzi := hT3.out.later hb4))
    | (refine wpList_store_row rfl 38 _ _ rfl TB3 z.cells.toArray rfl rfl _ _ hzi (infoS zw.out) (sizeSS yw.out zw.out) (oneS z) ?_))
  try simp only [Act.put, List.setIfInBounds_toArray, List.set_cons_zero, List.set_cons_succ]
  have hT4 : Hid (InS (wq4.setRow TB3 z.cells.toArray) TB3 z) := setRow_heap _ _ _ _ _ _ hzi
  have hO4 : Hid (∀ B y, B ≠ TB3 → InS V3 B y → InS (wq4.setRow TB3 z.cells.toArray) B y) := fun B y hne h => (setRow_other _ _ _ _ hne).trans (h.later hb4)
  have hL4 : Hid (Lw w (wq4.setRow TB3 z.cells.toArray) M s g f) := ⟨below_setRowG (bthen hL3.out.b hb4) (by have := hNb.out; omega) _, (setRow_other _ _ _ _ (by have := hNb.out; omega)).trans (hL3.out.a.later hb4)⟩
  generalize wq4.setRow TB3 z.cells.toArray = V4 at *
  clear hzi hb4
  clear p0 p1 p2 p3 zg zf zc rS
  have rTB1 : Hid (V4.rangeAt TB1 0 z.cells) := range_of (hO4.out TB1 z (by have := hlt.out; omega) hK1.out) [] z.cells [] (by simp) 0 rfl
  have rTB3 : Hid (V4.rangeAt TB3 0 z.cells) := range_of hT4.out [] z.cells [] (by simp) 0 rfl
  clear xE e1 e2 e3 e4
  go_wp2_with (first
    | ((with_reducible refine at_load 38 _ rfl ?_); refine stop_out ?_; (refine wpList_load_h 38 _ rfl TB1 0 rfl (by kernel_rfl) z.cells _ rTB1.out huS.out rfl (by have := infoS zw.out; rwa [List.size_toArray] at this) ?_); (simp only [Act.put, List.setIfInBounds_toArray, List.set_cons_zero, List.set_cons_succ]))
    | ((with_reducible refine at_load 38 _ rfl ?_); refine stop_out ?_; (refine wpList_load_h 38 _ rfl TB3 0 rfl (by kernel_rfl) z.cells _ rTB3.out huS.out rfl (by have := infoS zw.out; rwa [List.size_toArray] at this) ?_); (simp only [Act.put, List.setIfInBounds_toArray, List.set_cons_zero, List.set_cons_succ]))
    | ((with_reducible refine at_eql 38 _ _ _ rfl ?_); refine stop_out ?_; (refine wpList_eql_g 38 _ _ _ rfl (by kernel_rfl) z.cells.toArray z.cells.toArray rfl rfl hqS.out _ heq ?_); (simp only [Act.put, List.setIfInBounds_toArray, List.set_cons_zero, List.set_cons_succ])))
  go_ret
  exact ⟨rfl, hL4.out.b⟩
end Go.Proofs.YtjcmhaaohdmjpaaDoor.pg

