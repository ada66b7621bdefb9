/- StateKeeps, walked. -/
import Derived.Test.YtjcmhaaohdmjpaaDoorM29
import Derived.Test.YtjcmhaaohdmjpaaDoorM28
namespace Go.Proofs.YtjcmhaaohdmjpaaDoor.pg
open Go.ChangeShapes Go.WideShapes Go.ChangeAt Go.RowKit
set_option linter.unusedVariables false
set_option linter.unusedSimpArgs false
set_option maxRecDepth 100000
theorem startK_wf {w : World} {M : MPr} (hM : M.lies w) (f : Int) {x : Sts} {e : Int} (he : (x, e) = startR M.pr f) : x.wf := by
  unfold startR at he
  split at he
  · split at he
    · obtain ⟨rfl, _⟩ := Prod.mk.inj he
      exact (start_valid hapF (by assumption) (prI_of hM) hM.2.2.2.1 _).2
    · obtain ⟨rfl, _⟩ := Prod.mk.inj he
      exact zeroS_wf
  · obtain ⟨rfl, _⟩ := Prod.mk.inj he
    exact zeroS_wf
set_option maxHeartbeats 6000000 in
theorem keeps_any (M : MPr) (s : Sts) (hs : s.wf) (g f : Int) (w : World) (hM : M.lies w) (hF : prog.Forms w) :
    Calls Tryd.prog 6 #[caseV M s g f] w fun e w' => e = .returned (.bool true) ∧ Below w.heap.size w w' := by
  have hL0 : Hid (Lw w (w.alloc (objCa M s g f)) M s g f) := ⟨boxed _ _, inCa_new _ _ _ _ _⟩
  have hMH : Hid (M.lies w) := hM
  have hFH : Hid (prog.Forms w) := hF
  have hsH : Hid s.wf := hs
  have huS : Hid (Tryd.prog.underlying 38 = _) := Tryd.underlying38
  have hinL : Hid ((Tryd.prog.info? 38).map (·.size) = some s.cells.length) := by have := infoS hs; rwa [List.size_toArray] at this
  clear hM hF hs
  go_enter Tryd.func6, Tryd.ntmps6
  go_upto_region 1 with fail
  generalize w.alloc (objCa M s g f) = W at *
  obtain ⟨xs, es, hes⟩ : ∃ xs es, Hid ((xs, es) = startR M.pr 9) := ⟨_, _, rfl⟩
  have xsw : Hid xs.wf := startK_wf hMH.out 9 hes.out
  obtain ⟨x, e, he⟩ : ∃ x e, Hid ((x, e) = settleR M.pr s g f) := ⟨_, _, rfl⟩
  have xw : Hid x.wf := settleR_wf hsH.out (prI_of hMH.out) he.out
  have xA := start_any M 9 W (hMH.out.later hL0.out.b) (hFH.out.later hL0.out.b) xs es hes
  obtain ⟨p0, p1, p2, p3⟩ := hL0.out.a.p
  have zg := hL0.out.a.g hsH.out
  have zf := hL0.out.a.f hsH.out
  have zc := hL0.out.a.c hsH.out
  have rS : Hid (W.rangeAt w.heap.size 4 s.cells) := hL0.out.a.s
  go_upto_region 2 with (first
    | (go_at_call 10; (refine xA.mono ?_); rintro e' wq1 ⟨rfl, hb1⟩; (have hzi : (wq1.alloc (objSt zeroS)).heap[wq1.heap.size]? = some (objSt zeroS) := heap_alloc_new wq1 _))
    | (refine wpList_alloc_big rfl 38 rfl zv_S ?_)
    | (refine wpList_store_row rfl 38 _ _ rfl wq1.heap.size xs.cells.toArray rfl rfl _ _ hzi (infoS xsw.out) (sizeSS zeroS_wf xsw.out) (oneS xs) ?_))
  try simp only [Act.put, List.setIfInBounds_toArray, List.set_cons_zero, List.set_cons_succ]
  have hT1 : Hid (InS ((wq1.alloc (objSt zeroS)).setRow wq1.heap.size xs.cells.toArray) wq1.heap.size xs) := setRow_heap _ _ _ _ _ _ hzi
  have hB1 : Hid (Below W.heap.size W ((wq1.alloc (objSt zeroS)).setRow wq1.heap.size xs.cells.toArray)) := below_setRowG (bthen hb1 (boxed _ _)) hb1.size _
  generalize (wq1.alloc (objSt zeroS)).setRow wq1.heap.size xs.cells.toArray = V1 at *
  generalize wq1.heap.size = TB1 at *
  clear hzi hb1
  clear p0 p1 p2 p3 zg zf zc rS
  have hL1 : Hid (Lw w V1 M s g f) := hL0.out.later hB1.out
  clear xA
  have cR := fun (Q : Bool) (hQ : Hid (decide ((chk insR M.pr).1 = 0) = Q)) => rright_any M V1 (hMH.out.later hL1.out.b) Q hQ
  have hri : Hid _ := right_iff M.pr
  by_cases hok : (chk insP M.pr).1 = 0
  · have xR := cR true (decide_eq_true (hri.out.mp hok))
    have hxs : validS M.pr xs ∧ es = 0 := by
      have h9 := hes.out
      rw [startR, if_pos hok, if_pos (by omega)] at h9
      obtain ⟨rfl, rfl⟩ := Prod.mk.inj h9
      exact ⟨(start_valid hapF hok (prI_of hMH.out) hMH.out.2.2.2.1 _).1, rfl⟩
    obtain ⟨hxsv, rfl⟩ := hxs
    have hxsH : Hid (validS M.pr xs) := hxsv
    clear hxsv hes
    obtain ⟨p0, p1, p2, p3⟩ := hL1.out.a.p
    go_upto_region 4 with (go_at_call 18; (refine xR.mono ?_); rintro e' w2 ⟨rfl, hb2⟩; clear p0 p1 p2 p3)
    have hL2 : Hid (Lw w w2 M s g f) := hL1.out.later hb2
    have rTB1 : Hid (w2.rangeAt TB1 0 xs.cells) := range_of (hT1.out.later hb2) [] xs.cells [] (by simp) 0 rfl
    have xV1 := valid_any M xs xsw.out w2 (hMH.out.later hL2.out.b) (hFH.out.later hL2.out.b) true ⟨fun _ => hxsH.out, fun _ => rfl⟩
    obtain ⟨p0, p1, p2, p3⟩ := hL2.out.a.p
    clear xR cR hb2
    go_upto_region 6 with (first
      | ((with_reducible refine at_load 38 _ rfl ?_); refine stop_out ?_; (refine wpList_load_h 38 _ rfl TB1 0 rfl (by kernel_rfl) xs.cells _ rTB1.out huS.out rfl (by have := infoS xsw.out; rwa [List.size_toArray] at this) ?_); (simp only [Act.put, List.setIfInBounds_toArray, List.set_cons_zero, List.set_cons_succ]))
      | (go_at_call 16; (refine xV1.mono ?_); rintro e' w3 ⟨rfl, hb3⟩; clear p0 p1 p2 p3))
    have hL3 : Hid (Lw w w3 M s g f) := hL2.out.later hb3
    clear xV1 hb3 rTB1 hL2
    have xB := settle_any M s hsH.out g f w3 (hMH.out.later hL3.out.b) (hFH.out.later hL3.out.b) x e he
    obtain ⟨p0, p1, p2, p3⟩ := hL3.out.a.p
    have zg := hL3.out.a.g hsH.out
    have zf := hL3.out.a.f hsH.out
    have zc := hL3.out.a.c hsH.out
    have rS : Hid (w3.rangeAt w.heap.size 4 s.cells) := hL3.out.a.s
    go_upto_region 7 with (first
      | (refine wpList_load_mid rfl 38 _ rfl w.heap.size 4 rfl s.cells _ rS.out huS.out rfl hinL.out ?_)
      | (go_at_call 14; (refine xB.mono ?_); rintro e' wq5 ⟨rfl, hb5⟩; (have hzi : (wq5.alloc (objSt zeroS)).heap[wq5.heap.size]? = some (objSt zeroS) := heap_alloc_new wq5 _))
      | (refine wpList_alloc_big rfl 38 rfl zv_S ?_)
      | (refine wpList_store_row rfl 38 _ _ rfl wq5.heap.size x.cells.toArray rfl rfl _ _ hzi (infoS xw.out) (sizeSS zeroS_wf xw.out) (oneS x) ?_))
    try simp only [Act.put, List.setIfInBounds_toArray, List.set_cons_zero, List.set_cons_succ]
    have hT5 : Hid (InS ((wq5.alloc (objSt zeroS)).setRow wq5.heap.size x.cells.toArray) wq5.heap.size x) := setRow_heap _ _ _ _ _ _ hzi
    have hB5 : Hid (Below w3.heap.size w3 ((wq5.alloc (objSt zeroS)).setRow wq5.heap.size x.cells.toArray)) := below_setRowG (bthen hb5 (boxed _ _)) hb5.size _
    generalize (wq5.alloc (objSt zeroS)).setRow wq5.heap.size x.cells.toArray = V5 at *
    generalize wq5.heap.size = TB5 at *
    clear hzi hb5
    clear p0 p1 p2 p3 zg zf zc rS
    have hL5 : Hid (Lw w V5 M s g f) := hL3.out.later hB5.out
    clear xB
    by_cases hv : validS M.pr s
    rotate_left
    · have dn : (e != 0) = true := by
        have h9 := he.out
        rw [settleR_unvalid hv] at h9; obtain ⟨_, rfl⟩ := Prod.mk.inj h9; split <;> rfl
      obtain ⟨p0, p1, p2, p3⟩ := hL5.out.a.p
      have zg := hL5.out.a.g hsH.out
      have zf := hL5.out.a.f hsH.out
      have zc := hL5.out.a.c hsH.out
      have rS : Hid (V5.rangeAt w.heap.size 4 s.cells) := hL5.out.a.s
      have xN := rvalid_any M s hsH.out V5 (hMH.out.later hL5.out.b) false ⟨fun q => (by cases q), fun q => absurd q hv⟩
      go_wp2_with (first
        | (refine wpList_load_mid rfl 38 _ rfl w.heap.size 4 rfl s.cells _ rS.out huS.out rfl hinL.out ?_)
        | (go_at_call 17; (refine xN.mono ?_); rintro e' w7 ⟨rfl, hb7⟩; (have hL7 : Hid (Lw w w7 M s g f) := hL5.out.later hb7); clear p0 p1 p2 p3 zg zf zc rS; (have zg := hL7.out.a.g hsH.out); (have zf := hL7.out.a.f hsH.out); (have zc := hL7.out.a.c hsH.out)))
      go_ret
      exact ⟨rfl, bthen hL5.out.b hb7⟩
    have c6 := hv.f.c6
    by_cases g0 : g < 0
    · have dn : (e != 0) = true := by
        have h9 := he.out
        rw [settleR_arg hv (fun q => by omega)] at h9; obtain ⟨_, rfl⟩ := Prod.mk.inj h9; rfl
      have d0 : decide (g < 0) = true := decide_eq_true g0
      obtain ⟨p0, p1, p2, p3⟩ := hL5.out.a.p
      have zg := hL5.out.a.g hsH.out
      have zf := hL5.out.a.f hsH.out
      have zc := hL5.out.a.c hsH.out
      have rS : Hid (V5.rangeAt w.heap.size 4 s.cells) := hL5.out.a.s
      have xN := rvalid_any M s hsH.out V5 (hMH.out.later hL5.out.b) true ⟨fun _ => hv, fun _ => rfl⟩
      go_wp2_with (first
        | (refine wpList_load_mid rfl 38 _ rfl w.heap.size 4 rfl s.cells _ rS.out huS.out rfl hinL.out ?_)
        | (go_at_call 17; (refine xN.mono ?_); rintro e' w7 ⟨rfl, hb7⟩; (have hL7 : Hid (Lw w w7 M s g f) := hL5.out.later hb7); clear p0 p1 p2 p3 zg zf zc rS; (have zg := hL7.out.a.g hsH.out); (have zf := hL7.out.a.f hsH.out); (have zc := hL7.out.a.c hsH.out)))
      go_ret
      exact ⟨rfl, bthen hL5.out.b hb7⟩
    by_cases g1 : s.cnt ≤ g
    · have dn : (e != 0) = true := by
        have h9 := he.out
        by_cases q : 0 ≤ g ∧ g < 6 ∧ 0 ≤ f ∧ f ≤ 4096
        · rw [settleR_none hv q (by omega)] at h9; obtain ⟨_, rfl⟩ := Prod.mk.inj h9; rfl
        · rw [settleR_arg hv q] at h9; obtain ⟨_, rfl⟩ := Prod.mk.inj h9; rfl
      have d0 : decide (g < 0) = false := decide_eq_false g0
      have d1 : decide (s.cnt ≤ g) = true := decide_eq_true g1
      obtain ⟨p0, p1, p2, p3⟩ := hL5.out.a.p
      have zg := hL5.out.a.g hsH.out
      have zf := hL5.out.a.f hsH.out
      have zc := hL5.out.a.c hsH.out
      have rS : Hid (V5.rangeAt w.heap.size 4 s.cells) := hL5.out.a.s
      have xN := rvalid_any M s hsH.out V5 (hMH.out.later hL5.out.b) true ⟨fun _ => hv, fun _ => rfl⟩
      go_wp2_with (first
        | (refine wpList_load_mid rfl 38 _ rfl w.heap.size 4 rfl s.cells _ rS.out huS.out rfl hinL.out ?_)
        | (go_at_call 17; (refine xN.mono ?_); rintro e' w7 ⟨rfl, hb7⟩; (have hL7 : Hid (Lw w w7 M s g f) := hL5.out.later hb7); clear p0 p1 p2 p3 zg zf zc rS; (have zg := hL7.out.a.g hsH.out); (have zf := hL7.out.a.f hsH.out); (have zc := hL7.out.a.c hsH.out)))
      go_ret
      exact ⟨rfl, bthen hL5.out.b hb7⟩
    by_cases f0 : f < 0
    · have dn : (e != 0) = true := by
        have h9 := he.out
        rw [settleR_arg hv (fun q => by omega)] at h9; obtain ⟨_, rfl⟩ := Prod.mk.inj h9; rfl
      have d0 : decide (g < 0) = false := decide_eq_false g0
      have d1 : decide (s.cnt ≤ g) = false := decide_eq_false g1
      have d2 : decide (f < 0) = true := decide_eq_true f0
      obtain ⟨p0, p1, p2, p3⟩ := hL5.out.a.p
      have zg := hL5.out.a.g hsH.out
      have zf := hL5.out.a.f hsH.out
      have zc := hL5.out.a.c hsH.out
      have rS : Hid (V5.rangeAt w.heap.size 4 s.cells) := hL5.out.a.s
      have xN := rvalid_any M s hsH.out V5 (hMH.out.later hL5.out.b) true ⟨fun _ => hv, fun _ => rfl⟩
      go_wp2_with (first
        | (refine wpList_load_mid rfl 38 _ rfl w.heap.size 4 rfl s.cells _ rS.out huS.out rfl hinL.out ?_)
        | (go_at_call 17; (refine xN.mono ?_); rintro e' w7 ⟨rfl, hb7⟩; (have hL7 : Hid (Lw w w7 M s g f) := hL5.out.later hb7); clear p0 p1 p2 p3 zg zf zc rS; (have zg := hL7.out.a.g hsH.out); (have zf := hL7.out.a.f hsH.out); (have zc := hL7.out.a.c hsH.out)))
      go_ret
      exact ⟨rfl, bthen hL5.out.b hb7⟩
    by_cases f1 : 4096 < f
    · have dn : (e != 0) = true := by
        have h9 := he.out
        rw [settleR_arg hv (fun q => by omega)] at h9; obtain ⟨_, rfl⟩ := Prod.mk.inj h9; rfl
      have d0 : decide (g < 0) = false := decide_eq_false g0
      have d1 : decide (s.cnt ≤ g) = false := decide_eq_false g1
      have d2 : decide (f < 0) = false := decide_eq_false f0
      have d3 : decide (4096 < f) = true := decide_eq_true f1
      obtain ⟨p0, p1, p2, p3⟩ := hL5.out.a.p
      have zg := hL5.out.a.g hsH.out
      have zf := hL5.out.a.f hsH.out
      have zc := hL5.out.a.c hsH.out
      have rS : Hid (V5.rangeAt w.heap.size 4 s.cells) := hL5.out.a.s
      have xN := rvalid_any M s hsH.out V5 (hMH.out.later hL5.out.b) true ⟨fun _ => hv, fun _ => rfl⟩
      go_wp2_with (first
        | (refine wpList_load_mid rfl 38 _ rfl w.heap.size 4 rfl s.cells _ rS.out huS.out rfl hinL.out ?_)
        | (go_at_call 17; (refine xN.mono ?_); rintro e' w7 ⟨rfl, hb7⟩; (have hL7 : Hid (Lw w w7 M s g f) := hL5.out.later hb7); clear p0 p1 p2 p3 zg zf zc rS; (have zg := hL7.out.a.g hsH.out); (have zf := hL7.out.a.f hsH.out); (have zc := hL7.out.a.c hsH.out)))
      go_ret
      exact ⟨rfl, bthen hL5.out.b hb7⟩
    have hxv : ∃ x', settleR M.pr s g f = (x', 0) ∧ x'.wf ∧ validS M.pr x' ∧ x' = setG s g.toNat (settleG word.apF (fnAt M.pr (goAt s g).fn).code f.toNat (goAt s g)) := settle_pack hsH.out (prI_of hMH.out) hv (by omega) (by omega) (by omega) (by omega)
    obtain ⟨x', hx1, _, hx2, hx3⟩ := hxv
    have h9 := he.out
    rw [hx1] at h9
    obtain ⟨rfl, rfl⟩ := Prod.mk.inj h9
    have hxvH : Hid (validS M.pr x) := hx2
    have hxd : Hid (x = setG s g.toNat (settleG word.apF (fnAt M.pr (goAt s g).fn).code f.toNat (goAt s g))) := hx3
    have heq := eql_st hsH.out hsH.out true (by simp)
    have hS5 : InS V5 TB5 x := hT5.out
    clear h9 hx1 hx2 hx3 he
    have hzi : (V5.alloc (objSt zeroS)).heap[V5.heap.size]? = some (objSt zeroS) := heap_alloc_new V5 _
    go_upto_region 10 with (first
      | (refine wpList_load_row rfl 38 _ rfl TB5 rfl _ _ _ _ hS5 huS.out rfl (infoS xw.out) ?_)
      | (refine wpList_alloc_big rfl 38 rfl zv_S ?_)
      | (refine wpList_store_row rfl 38 _ _ rfl V5.heap.size x.cells.toArray rfl rfl _ _ hzi (infoS xw.out) (sizeSS zeroS_wf xw.out) (oneS x) ?_))
    try simp only [Act.put, List.setIfInBounds_toArray, List.set_cons_zero, List.set_cons_succ]
    have hU9 : Hid (InS ((V5.alloc (objSt zeroS)).setRow V5.heap.size x.cells.toArray) V5.heap.size x) := setRow_heap _ _ _ _ _ _ hzi
    have hB9 : Below V5.heap.size V5 ((V5.alloc (objSt zeroS)).setRow V5.heap.size x.cells.toArray) := below_setRowG (boxed _ _) (Nat.le_refl _) _
    have hL9 : Hid (Lw w ((V5.alloc (objSt zeroS)).setRow V5.heap.size x.cells.toArray) M s g f) := hL5.out.later hB9
    have hT9 : Hid (InS ((V5.alloc (objSt zeroS)).setRow V5.heap.size x.cells.toArray) TB5 x) := hT5.out.later hB9
    have hUB : Hid (w.heap.size < V5.heap.size) := hL5.out.a.lt
    have hTU : Hid (TB5 < V5.heap.size) := hT5.out.lt
    generalize (V5.alloc (objSt zeroS)).setRow V5.heap.size x.cells.toArray = V9 at *
    generalize V5.heap.size = UB at *
    clear hzi hB9 hS5
    have zg := hL9.out.a.g hsH.out
    have d0 : decide (g < 0) = false := decide_eq_false g0
    have d1 : decide (6 ≤ g) = false := decide_eq_false (by omega)
    go_upto_region 12 with fail
    clear zg d0 d1
    have hH : Oth V9 UB V9.drew := oth_drew _ _
    have hUn : w.heap.size ≠ UB := by have := hUB.out; omega
    have hwl := hL9.out.a.lt
    have zg := hL9.out.a.g hsH.out
    have hgo := goAt_wf hsH.out (g := g) (by omega)
    have hpg1 := ixp (t := 36) Tryd.underlying36 (fun wx => Tryd.sizeOf35 wx) w.heap.size 52 g (by omega) (by omega)
    have hpg2 := ixg UB g (by omega) (by omega)
    have hrG : V9.rangeAt w.heap.size (52 + g.toNat * 12) (goAt s g).cells := fun j v hj => by
      have h1 := hL9.out.a.s _ _ (go_range hsH.out hgo.1 j v hj)
      rwa [show 4 + (48 + g.toNat * 12 + j) = 52 + g.toNat * 12 + j by omega] at h1
    have hinG : (Tryd.prog.info? 35).map (·.size) = some (goAt s g).cells.length := by have := infoGw hgo.2.2; rwa [List.size_toArray] at this
    refine wp_region_held_drew (S := Oth V9 UB) (by kernel_rfl) hH (fun _ => ?_)
    refine reg_move (i := 0) rfl (by kernel_rfl) (by kernel_rfl) (by kernel_rfl) (fun _ _ _ _ h => h) rfl (.pointer (some ⟨w.heap.size, 125, none⟩)) (fun _ => by kernel_rfl) hH ?_
    simp only [Act.put, List.getElem_toArray, List.getElem_cons_succ, List.getElem_cons_zero, List.setIfInBounds_toArray, List.set_cons_zero, List.set_cons_succ]
    refine reg_load1 (i := 1) rfl (by kernel_rfl) (by kernel_rfl) (by kernel_rfl) (fun _ _ _ _ h => h) rfl 3 _ rfl ⟨w.heap.size, 125, none⟩ rfl _ Tryd.underlying3 rfl (.int .i64 g) (fun w' h' => h'.cell zg hwl hUn) hH ?_
    simp only [Act.put, List.getElem_toArray, List.getElem_cons_succ, List.getElem_cons_zero, List.setIfInBounds_toArray, List.set_cons_zero, List.set_cons_succ]
    refine reg_move (i := 2) rfl (by kernel_rfl) (by kernel_rfl) (by kernel_rfl) (fun _ _ _ _ h => h) rfl (.pointer (some ⟨w.heap.size, 125, none⟩)) (fun _ => by kernel_rfl) hH ?_
    simp only [Act.put, List.getElem_toArray, List.getElem_cons_succ, List.getElem_cons_zero, List.setIfInBounds_toArray, List.set_cons_zero, List.set_cons_succ]
    refine reg_load1 (i := 3) rfl (by kernel_rfl) (by kernel_rfl) (by kernel_rfl) (fun _ _ _ _ h => h) rfl 3 _ rfl ⟨w.heap.size, 125, none⟩ rfl _ Tryd.underlying3 rfl (.int .i64 g) (fun w' h' => h'.cell zg hwl hUn) hH ?_
    simp only [Act.put, List.getElem_toArray, List.getElem_cons_succ, List.getElem_cons_zero, List.setIfInBounds_toArray, List.set_cons_zero, List.set_cons_succ]
    refine reg_move (i := 4) rfl (by kernel_rfl) (by kernel_rfl) (by kernel_rfl) (fun _ _ _ _ h => h) rfl (.pointer (some ⟨w.heap.size, 4, none⟩)) (fun _ => by kernel_rfl) hH ?_
    simp only [Act.put, List.getElem_toArray, List.getElem_cons_succ, List.getElem_cons_zero, List.setIfInBounds_toArray, List.set_cons_zero, List.set_cons_succ]
    refine reg_move (i := 5) rfl (by kernel_rfl) (by kernel_rfl) (by kernel_rfl) (fun _ _ _ _ h => h) rfl (.pointer (some ⟨w.heap.size, 52, none⟩)) (fun _ => by kernel_rfl) hH ?_
    simp only [Act.put, List.getElem_toArray, List.getElem_cons_succ, List.getElem_cons_zero, List.setIfInBounds_toArray, List.set_cons_zero, List.set_cons_succ]
    refine reg_move (i := 6) rfl (by kernel_rfl) (by kernel_rfl) (by kernel_rfl) (fun _ _ _ _ h => h) rfl (.pointer (some ⟨w.heap.size, 52 + g.toNat * 12, none⟩)) (fun wx => by unfold execOp; exact run_valueS (hpg1 wx)) hH ?_
    simp only [Act.put, List.getElem_toArray, List.getElem_cons_succ, List.getElem_cons_zero, List.setIfInBounds_toArray, List.set_cons_zero, List.set_cons_succ]
    refine reg_load (i := 7) rfl (by kernel_rfl) (by kernel_rfl) (by kernel_rfl) (fun _ _ _ _ h => h) rfl 35 _ rfl w.heap.size (52 + g.toNat * 12) rfl (goAt s g).cells _ (fun w' h' => fun q v hv => h'.cell (hrG q v hv) hwl hUn) Tryd.underlying35 rfl hinG hH ?_
    simp only [Act.put, List.getElem_toArray, List.getElem_cons_succ, List.getElem_cons_zero, List.setIfInBounds_toArray, List.set_cons_zero, List.set_cons_succ]
    refine reg_move (i := 8) rfl (by kernel_rfl) (by kernel_rfl) (by kernel_rfl) (fun _ _ _ _ h => h) rfl (.pointer (some ⟨UB, 48, none⟩)) (fun _ => by kernel_rfl) hH ?_
    simp only [Act.put, List.getElem_toArray, List.getElem_cons_succ, List.getElem_cons_zero, List.setIfInBounds_toArray, List.set_cons_zero, List.set_cons_succ]
    refine reg_move (i := 9) rfl (by kernel_rfl) (by kernel_rfl) (by kernel_rfl) (fun _ _ _ _ h => h) rfl (.pointer (some ⟨UB, 48 + g.toNat * 12, none⟩)) (fun wx => by unfold execOp; exact run_valueS (hpg2 wx)) hH ?_
    simp only [Act.put, List.getElem_toArray, List.getElem_cons_succ, List.getElem_cons_zero, List.setIfInBounds_toArray, List.set_cons_zero, List.set_cons_succ]
    refine reg_one (i := 10) (by kernel_rfl) rfl rfl (wpList_putG rfl _ _ rfl UB g.toNat x xw.out (by omega) (goAt s g) hgo.2.2 rfl rfl hU9.out ?_)
    intro W5 hI5 hB5 hO5
    refine wpList_nil (And.intro (fun b h1 h2 => hO5 b h2) fun _ => ?_)
    simp only [Act.put, List.getElem_toArray, List.getElem_cons_succ, List.getElem_cons_zero, List.setIfInBounds_toArray, List.set_cons_zero, List.set_cons_succ]
    refine wpAnyH_done (by kernel_rfl) ?_ _
    have hback : setG x g.toNat (goAt s g) = s := by
      rw [hxd.out]
      unfold setG
      simp only [List.set_set]
      exact setG_self hgo.1
    rw [hback] at hI5
    have hbE : Hid (Below w.heap.size w W5) := hB5 _ _ (by have := hUB.out; omega) (bthen hL9.out.b (bey_drew V9))
    have hCa5 : InCa W5 w.heap.size M s g f := (hO5 _ hUn).trans hL9.out.a
    have hT5' : InS W5 TB5 x := (hO5 _ (by have := hTU.out; omega)).trans hT9.out
    have hL10 : Hid (Lw w W5 M s g f) := ⟨hbE.out, hCa5⟩
    clear hH hUn hwl zg hgo hpg1 hpg2 hrG hinG hB5 hO5 hback
    obtain ⟨p0, p1, p2, p3⟩ := hL10.out.a.p
    have zg := hL10.out.a.g hsH.out
    have zf := hL10.out.a.f hsH.out
    have zc := hL10.out.a.c hsH.out
    have rS : Hid (W5.rangeAt w.heap.size 4 s.cells) := hL10.out.a.s
    have rTB5 : Hid (W5.rangeAt TB5 0 x.cells) := range_of hT5' [] x.cells [] (by simp) 0 rfl
    have xV := valid_any M x xw.out W5 (hMH.out.later hL10.out.b) (hFH.out.later hL10.out.b) true ⟨fun _ => hxvH.out, fun _ => rfl⟩
    go_wp2_with (first
      | (refine wpList_load_row rfl 38 _ rfl UB rfl _ _ _ _ hI5 huS.out rfl (infoS hsH.out) ?_)
      | (refine wpList_load_mid rfl 38 _ rfl w.heap.size 4 rfl s.cells _ rS.out huS.out rfl hinL.out ?_)
      | ((with_reducible refine at_load 38 _ rfl ?_); refine stop_out ?_; (refine wpList_load_h 38 _ rfl TB5 0 rfl (by kernel_rfl) x.cells _ rTB5.out huS.out rfl (by have := infoS xw.out; rwa [List.size_toArray] at this) ?_); (simp only [Act.put, List.setIfInBounds_toArray, List.set_cons_zero, List.set_cons_succ]))
      | (go_at_call 16; (refine xV.mono ?_); rintro e' w8 ⟨rfl, hb8⟩))
    go_ret
    exact ⟨rfl, bthen hL10.out.b hb8⟩
  · have xR := cR false (decide_eq_false fun q => hok (hri.out.mpr q))
    have hes3 : es = 3 := by
      have h9 := hes.out
      rw [startR, if_neg hok] at h9
      exact (Prod.mk.inj h9).2
    subst hes3
    have hv : ¬ validS M.pr s := fun q => hok q.r
    clear hes
    obtain ⟨p0, p1, p2, p3⟩ := hL1.out.a.p
    go_upto_region 6 with (go_at_call 18; (refine xR.mono ?_); rintro e' w2 ⟨rfl, hb2⟩; clear p0 p1 p2 p3)
    have hL3 : Hid (Lw w w2 M s g f) := hL1.out.later hb2
    clear xR cR hb2
    have xB := settle_any M s hsH.out g f w2 (hMH.out.later hL3.out.b) (hFH.out.later hL3.out.b) x e he
    obtain ⟨p0, p1, p2, p3⟩ := hL3.out.a.p
    have zg := hL3.out.a.g hsH.out
    have zf := hL3.out.a.f hsH.out
    have zc := hL3.out.a.c hsH.out
    have rS : Hid (w2.rangeAt w.heap.size 4 s.cells) := hL3.out.a.s
    go_upto_region 7 with (first
      | (refine wpList_load_mid rfl 38 _ rfl w.heap.size 4 rfl s.cells _ rS.out huS.out rfl hinL.out ?_)
      | (go_at_call 14; (refine xB.mono ?_); rintro e' wq5 ⟨rfl, hb5⟩; (have hzi : (wq5.alloc (objSt zeroS)).heap[wq5.heap.size]? = some (objSt zeroS) := heap_alloc_new wq5 _))
      | (refine wpList_alloc_big rfl 38 rfl zv_S ?_)
      | (refine wpList_store_row rfl 38 _ _ rfl wq5.heap.size x.cells.toArray rfl rfl _ _ hzi (infoS xw.out) (sizeSS zeroS_wf xw.out) (oneS x) ?_))
    try simp only [Act.put, List.setIfInBounds_toArray, List.set_cons_zero, List.set_cons_succ]
    have hT5 : Hid (InS ((wq5.alloc (objSt zeroS)).setRow wq5.heap.size x.cells.toArray) wq5.heap.size x) := setRow_heap _ _ _ _ _ _ hzi
    have hB5 : Hid (Below w2.heap.size w2 ((wq5.alloc (objSt zeroS)).setRow wq5.heap.size x.cells.toArray)) := below_setRowG (bthen hb5 (boxed _ _)) hb5.size _
    generalize (wq5.alloc (objSt zeroS)).setRow wq5.heap.size x.cells.toArray = V5 at *
    generalize wq5.heap.size = TB5 at *
    clear hzi hb5
    clear p0 p1 p2 p3 zg zf zc rS
    have hL5 : Hid (Lw w V5 M s g f) := hL3.out.later hB5.out
    clear xB
    have dn : (e != 0) = true := by
      have h9 := he.out
      rw [settleR_unvalid hv] at h9; obtain ⟨_, rfl⟩ := Prod.mk.inj h9; split <;> rfl
    obtain ⟨p0, p1, p2, p3⟩ := hL5.out.a.p
    have zg := hL5.out.a.g hsH.out
    have zf := hL5.out.a.f hsH.out
    have zc := hL5.out.a.c hsH.out
    have rS : Hid (V5.rangeAt w.heap.size 4 s.cells) := hL5.out.a.s
    have xN := rvalid_any M s hsH.out V5 (hMH.out.later hL5.out.b) false ⟨fun q => (by cases q), fun q => absurd q hv⟩
    go_wp2_with (first
      | (refine wpList_load_mid rfl 38 _ rfl w.heap.size 4 rfl s.cells _ rS.out huS.out rfl hinL.out ?_)
      | (go_at_call 17; (refine xN.mono ?_); rintro e' w7 ⟨rfl, hb7⟩; (have hL7 : Hid (Lw w w7 M s g f) := hL5.out.later hb7); clear p0 p1 p2 p3 zg zf zc rS; (have zg := hL7.out.a.g hsH.out); (have zf := hL7.out.a.f hsH.out); (have zc := hL7.out.a.c hsH.out)))
    go_ret
    exact ⟨rfl, bthen hL5.out.b hb7⟩
end Go.Proofs.YtjcmhaaohdmjpaaDoor.pg

