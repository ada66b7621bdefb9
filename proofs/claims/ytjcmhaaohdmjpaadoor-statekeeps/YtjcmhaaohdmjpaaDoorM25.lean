/- The contract of the document's own Right. -/
import Derived.Test.YtjcmhaaohdmjpaaDoorM24
import Derived.Test.YtjcmhaaohdmjpaaDoorM22
import Derived.Test.YtjcmhaaohdmjpaaDoorM23
import Derived.Test.YtjcmhaaohdmjpaaDoorM10
namespace Go.Proofs.YtjcmhaaohdmjpaaDoor.pg
open Go.ChangeShapes Go.WideShapes Go.ChangeAt Go.RowKit
set_option linter.unusedVariables false
set_option linter.unusedSimpArgs false
set_option maxRecDepth 100000
theorem rright_any (M : MPr) (w : World) (hl : M.lies w) (r : Bool) (hr : Hid (decide ((chk insR M.pr).1 = 0) = r)) :
    Calls Tryd.prog 18 #[M.val] w fun e w' => e = .returned (.bool r) ∧ Below w.heap.size w w' := by
  obtain ⟨a, b, c, hc⟩ : ∃ a b c, Hid (chk insR M.pr = (a, b, c)) := ⟨_, _, _, rfl⟩
  have hb := boxed w (objP M)
  have hcall := rcheck_any M _ (hl.later hb) a b c hc
  have hv : Hid (decide (a = 0) = r) := by rw [← hr.out, hc.out]; rfl
  clear hl hr hc
  go_enter Tryd.func18, Tryd.ntmps18
  by_cases h0 : a = 0
  · have hv2 : Hid (r = true) := hv.out.symm.trans (decide_eq_true h0)
    go_wp2_with (go_at_call 31; (with_reducible refine hcall.mono ?_); rintro e w2 ⟨rfl, hb2⟩)
    go_ret
    exact ⟨ret_b (by rw [hv2.out]), bthen (bthen hb hb2) (boxed _ _)⟩
  · have hv2 : Hid (r = false) := hv.out.symm.trans (decide_eq_false h0)
    go_wp2_with (go_at_call 31; (with_reducible refine hcall.mono ?_); rintro e w2 ⟨rfl, hb2⟩)
    go_ret
    exact ⟨ret_b (by rw [hv2.out]; simp [h0]), bthen (bthen hb hb2) (boxed _ _)⟩
end Go.Proofs.YtjcmhaaohdmjpaaDoor.pg
/- The state in which a program begins: package state's Start and the document's own. -/
namespace Go.Proofs.YtjcmhaaohdmjpaaDoor.pg
open Go.ChangeShapes Go.WideShapes Go.ChangeAt Go.RowKit
set_option linter.unusedVariables false
set_option linter.unusedSimpArgs false
set_option maxRecDepth 100000
theorem prI_of {w : World} {M : MPr} (h : M.lies w) : PrI M.pr := fun f hf i hi => by
  obtain ⟨F, hF, rfl⟩ := List.mem_map.mp hf
  exact ((h.2.2.2.2.2.2 F hF).2.2.1 i hi).2.2.2.2
theorem iv_more' {vs : List Vr} {k : Nat} {x : Vr} (hk : vs[k]? = some x) (h8 : vs.length ≤ 8) : (iv (vs.take k)).set k x.init = iv (vs.take (k + 1)) := by
  have hl := (List.getElem?_eq_some_iff.mp hk).1
  have e : (vs.take k).length = k := by rw [List.length_take]; omega
  have := iv_more (vs := vs.take k) (x := x) (by omega)
  rw [e] at this
  rw [this, List.take_add_one, hk]
  rfl
theorem code0 {M : MPr} (h : (chk insP M.pr).1 = 0) : ∃ F, M.fns[0]? = some F ∧ F ∈ M.fns ∧ fnAt M.pr 0 = F.fn := by
  have h1 : 1 ≤ M.fns.length := by
    have := (sizes_ok (chk_sizes0 h)).2.2.2.1
    have e : M.pr.fns.length = M.fns.length := by show (M.fns.map MFn.fn).length = _; rw [List.length_map]
    omega
  obtain ⟨F, h2, h3⟩ := get_lt M.fns 0 (by omega)
  exact ⟨F, h2, h3, fnAt_M (n := 0) h2⟩
set_option maxHeartbeats 4000000 in
theorem start_any (M : MPr) (f : Int) (w : World) (hM : M.lies w) (hF : prog.Forms w) (x : Sts) (e : Int) (he : Hid ((x, e) = startR M.pr f)) :
    Calls Tryd.prog 10 #[M.val, .int .i64 f] w fun e' w' => e' = .returned (.tuple #[x.val, .int .i64 e]) ∧ Below w.heap.size w w' := by
  obtain ⟨q1, q2⟩ := two_boxes w (objP M) (objSt zeroS)
  have hb := boxed2 w (objP M) (objSt zeroS)
  have hbP : BoxP ((w.alloc (objP M)).alloc (objSt zeroS)) w.heap.size M := ⟨cell_ofG q1 rfl, cell_ofG q1 rfl, cell_ofG q1 rfl, cell_ofG q1 rfl⟩
  have hz0 : Hid (InS ((w.alloc (objP M)).alloc (objSt zeroS)) (w.heap.size + 1) zeroS) := q2
  have hbH : Hid (Below w.heap.size w ((w.alloc (objP M)).alloc (objSt zeroS))) := hb
  have hbPH : Hid (BoxP ((w.alloc (objP M)).alloc (objSt zeroS)) w.heap.size M) := hbP
  have hMH : Hid (M.lies w) := hM
  have huS : Hid (Tryd.prog.underlying 38 = _) := Tryd.underlying38
  have hvl := rows_len hM.1
  obtain ⟨a, b, c, hc⟩ : ∃ a b c, Hid (chk insP M.pr = (a, b, c)) := ⟨_, _, _, rfl⟩
  have hcall := check_any M _ (hM.later hb) (hF.later hb) a b c hc
  have hFH : Hid (prog.Forms w) := hF
  clear q1 q2 hM hb hbP hF
  go_enter Tryd.func10, Tryd.ntmps10
  go_upto_region 1 with (refine wpList_alloc_big rfl 38 rfl zv_S ?_)
  try simp only [Act.put, List.setIfInBounds_toArray, List.set_cons_zero, List.set_cons_succ]
  generalize (w.alloc (objP M)).alloc (objSt zeroS) = W at *
  obtain ⟨p0, p1, p2, p3⟩ := hbPH.out
  by_cases ca : a = 0
  · subst ca
    have hok : (chk insP M.pr).1 = 0 := by rw [hc.out]
    clear hc
    go_upto_region 4 with (go_at_call 19; (with_reducible refine hcall.mono ?_); rintro e w2 ⟨rfl, hb2⟩; (have hz2 : Hid (InS (w2.alloc (Obj.cells #[.int .i64 b, .int .i64 c] 63)) (w.heap.size + 1) zeroS) := (hz0.out.later hb2).later (boxed _ _)); (have hb2H : Hid (Below w.heap.size w (w2.alloc (Obj.cells #[.int .i64 b, .int .i64 c] 63))) := bthen (bthen hbH.out hb2) (boxed _ _)); (have hp2 : Hid (BoxP (w2.alloc (Obj.cells #[.int .i64 b, .int .i64 c] 63)) w.heap.size M) := (hbPH.out.later hb2).later (boxed _ _)))
    clear p0 p1 p2 p3 hcall
    generalize w2.alloc (Obj.cells #[.int .i64 b, .int .i64 c] 63) = w2 at *
    clear hb2 hz0 hbH hbPH
    by_cases hf : 0 ≤ f ∧ f ≤ 4096
    rotate_left
    · have xE := enough_any f false ⟨fun q => (by cases q), fun q => absurd q hf⟩ w2
      have e1 : (x, e) = (zeroS, 1) := by rw [he.out, startR]; rw [if_pos hok, if_neg hf]
      obtain ⟨rfl, rfl⟩ : x = zeroS ∧ e = 1 := by simpa using e1
      clear he e1
      go_wp2_with (first
        | (go_at_call 20; (with_reducible refine xE.mono ?_); rintro e w3 ⟨rfl, hw3⟩; replace hw3 := hw3.symm; subst hw3)
        | (refine wpList_bld rfl 38 _ rfl #[] rfl zeroS.val bld_S0 ?_)
        | (refine wpList_store_row rfl 38 _ _ rfl (w.heap.size + 1) zeroS.cells.toArray rfl rfl _ _ hz2.out (infoS zeroS_wf) rfl (oneS zeroS) ?_))
      exact bodyPost_ret (results_st Tryd.results10 _ _ (w.heap.size + 1) zeroS zeroS_wf _ rfl rfl (hz2.out.put _)) rfl ⟨rfl, below_setRowG hb2H.out (by omega) _⟩
    have xE := enough_any f true ⟨fun _ => hf, fun _ => rfl⟩ w2
    have e1 : (x, e) = (startS word.apF M.pr f.toNat, 0) := by rw [he.out, startR, if_pos hok, if_pos hf]
    obtain ⟨rfl, rfl⟩ : x = startS word.apF M.pr f.toNat ∧ e = 0 := by simpa using e1
    clear he e1
    obtain ⟨F, hF0, hFm, eF⟩ := code0 hok
    have hv8 := (sizes_ok (chk_sizes0 hok)).1
    have hv8' : M.vars.length ≤ 8 := hv8
    have hva : ∀ x ∈ M.vars, I64 x.init := hMH.out.2.2.2.1
    have hwf := (start_valid hapF hok (prI_of hMH.out) hva f.toNat).2
    have hfs := fresh_stands hapF hok (prI_of hMH.out) f.toNat
    have hokH : Hid ((chk insP M.pr).1 = 0) := hok
    have hzi : (w2.alloc (objSt zeroS)).heap[w2.heap.size]? = some (objSt zeroS) := heap_alloc_new w2 _
    have hlw : w.heap.size + 1 < w2.heap.size := hz2.out.lt
    have hV : Hid (StM w ((w2.alloc (objSt zeroS)).setRow w2.heap.size firstS.cells.toArray) M w2.heap.size (ivS (M.vars.take 0))) := by
      have hbw : Below w2.heap.size w2 ((w2.alloc (objSt zeroS)).setRow w2.heap.size firstS.cells.toArray) := below_setRowG (boxed _ _) (Nat.le_refl _) _
      exact ⟨bthen hb2H.out hbw, hp2.out.later hbw, hz2.out.later hbw, setRow_heap _ _ _ _ _ _ hzi, hlw⟩
    clear hv8 hok
    go_upto_region 7 with (first
      | (refine wpList_alloc_big rfl 38 rfl zv_S ?_)
      | (refine wpList_bld rfl 38 _ rfl #[(4, .int .i64 1)] rfl firstS.val bld_S1 ?_)
      | (refine wpList_store_row rfl 38 _ _ rfl w2.heap.size firstS.cells.toArray rfl rfl _ _ hzi (infoS firstS_wf) rfl (oneS firstS) ?_)
      | (go_at_call 20; (with_reducible refine xE.mono ?_); rintro e w3 ⟨rfl, hw3⟩; replace hw3 := hw3.symm; subst hw3))
    try simp only [Act.put, List.setIfInBounds_toArray, List.set_cons_zero, List.set_cons_succ]
    generalize (w2.alloc (objSt zeroS)).setRow w2.heap.size firstS.cells.toArray = V at *
    generalize w2.heap.size = SB at *
    clear hzi hz2 hb2H hp2
    obtain ⟨p0, p1, p2, p3⟩ := hV.out.p
    go_wp2_with fail
    clear p0 p1 p2 p3
    go_loopw [27] (fun u wr => ∃ k : Nat, k ≤ M.vars.length ∧ u = .int .i64 (k : Int) ∧ Hid (StM w wr M SB (ivS (M.vars.take k)))) (fun u _ => M.vars.length - (intOf u).toNat)
    case atStart => exact ⟨0, by omega, rfl, hV⟩
    case round =>
      clear hV
      obtain ⟨k, hk, rfl, ho⟩ := hrel
      by_cases hlt : k < M.vars.length
      · obtain ⟨v, hv, hvm⟩ := get_lt M.vars k hlt
        obtain ⟨vb, vo, hvix, hvb, v0, v1⟩ := vr_ix (hMH.out.later ho.out.b).1 k v hv
        have hkI : (k : Int) < M.vars.length := by omega
        have hbw := boxed wr (Obj.cells #[.bool v.atomic, .int .i64 v.init] 68)
        have hU : Hid (StM w (wr.alloc (Obj.cells #[.bool v.atomic, .int .i64 v.init] 68)) M SB (ivS (M.vars.take k))) := ho.out.later hbw
        have hvn : (wr.alloc (Obj.cells #[.bool v.atomic, .int .i64 v.init] 68)).heap[wr.heap.size]? = some (Obj.cells #[.bool v.atomic, .int .i64 v.init] 68) := heap_alloc_new wr _
        have hvc := cell_ofG (k := 1) (v := .int .i64 v.init) hvn rfl
        have hx8 := ixv8 SB k (by omega)
        have hsl : ((ivS (M.vars.take k)).vars).length = 8 := iv_len (by rw [List.length_take]; omega)
        obtain ⟨old, hold, _⟩ := get_lt (ivS (M.vars.take k)).vars k (by omega)
        have hcell := (hU.out.st.vars (ivS_wf (by rw [List.length_take]; omega) (fun y hy => hva y (List.mem_of_mem_take hy)))).row (i := k) (row := chCells old) (by rw [List.getElem?_map, hold]; rfl)
        have hcc : (wr.alloc (Obj.cells #[.bool v.atomic, .int .i64 v.init] 68)).cell? ⟨SB, k, none⟩ = some (.int .i64 old) := by
          obtain ⟨b', off', ha, _, hc⟩ := hcell
          simp only [Option.some.injEq, Addr.mk.injEq, and_true] at ha
          obtain ⟨rfl, rfl⟩ := ha
          have := hc 0 _ rfl
          simpa using this
        have hfz : (wr.alloc (Obj.cells #[.bool v.atomic, .int .i64 v.init] 68)).frozen? ⟨SB, k, none⟩ = false := frozen_of_row _ _ _ _ _ hU.out.st
        have hnx : Hid (∀ W', W' = (wr.alloc (Obj.cells #[.bool v.atomic, .int .i64 v.init] 68)).setCell ⟨SB, k, none⟩ (.int .i64 v.init) → StM w W' M SB (ivS (M.vars.take (k + 1)))) := fun W' hW' => by
          have h1 := hU.out.st.setV k (by omega) v.init
          have e2 : ({ ivS (M.vars.take k) with vars := (ivS (M.vars.take k)).vars.set k v.init } : Sts) = ivS (M.vars.take (k + 1)) := by
            have := iv_more' hv hv8'
            show Sts.mk ((iv (M.vars.take k)).set k v.init) _ _ _ _ = Sts.mk (iv (M.vars.take (k + 1))) _ _ _ _
            rw [this]
            rfl
          rw [e2] at h1
          have hlS := hU.out.hS
          rw [hW']
          exact ⟨hU.out.b.setCell (p := ⟨SB, k, none⟩) (by show w.heap.size ≤ SB; omega) _, hU.out.p.set (by omega), (Below.heap_setCell _ _ _ _ (by show _ ≠ SB; omega)).trans hU.out.z, h1, hlS⟩
        clear hcell hold hsl hv hvm hvn hU hbw
        go_wp2_with (refine wpList_puti rfl 2 _ _ rfl ⟨SB, k, none⟩ rfl v.init rfl (by kernel_rfl) _ hcc hfz ?_; intro W1 hW1; (have hV2 : Hid (StM w W1 M SB (ivS (M.vars.take (k + 1)))) := hnx.out W1 hW1); clear hW1)
        go_roundw
        case rel => exact ⟨k + 1, by omega, by go_num, hV2⟩
        case measure => simp [intOf]; omega
      · have hkl : k = M.vars.length := by omega
        have ho2 : Hid (StM w wr M SB (ivS M.vars)) := by have := ho.out; rw [hkl, List.take_length] at this; exact this
        have hkI : ¬ ((k : Int) < M.vars.length) := by omega
        obtain ⟨p0, p1, p2, p3⟩ := ho2.out.p
        have hx0 := ixg0 SB
        have hSS := ho2.out.st
        have ivw : Hid (ivS M.vars).wf := ivS_wf hv8' hva
        have hzl := ho2.out.z
        obtain ⟨fb, fo, hfix, hfb, fc0, fc1, fc2, fc3⟩ := fn_ix (hMH.out.later ho2.out.b).2.2.1 0 F hF0
        rw [show (((0 : Nat) : Int)) = 0 from rfl] at hfix
        have xS : Calls Tryd.prog 21 #[.slice F.ca F.code.length F.ccap, freshG.val, .int .i64 f] wr fun e w' => e = .returned (runG word.apF (fun o => decide (locP o)) (fnAt M.pr 0).code f.toNat freshG).val ∧ Below wr.heap.size wr w' := by
          have hc := good_of hokH.out F.fn (List.mem_map.mpr ⟨F, hFm, rfl⟩)
          have hlF := (hMH.out.later ho2.out.b).2.2.2.2.2.2 F hFm
          have := run_any F.code F.ca F.ccap freshG f.toNat (rg := F.regs) hc hlF.2.2.1 ⟨by decide, by show (0 : Int) < _; have := hc.l1; have h2 : F.fn.code = F.code := rfl; rw [h2] at this; omega, rfl, zero8_all⟩ (by omega) wr hlF.1 (hFH.out.later ho2.out.b)
          rw [show ((f.toNat : Nat) : Int) = f by omega] at this
          rw [eF]
          exact this
        have hxw := hfs.2.1
        have eS := startS_eq word.apF M.pr f.toNat
        rw [← eS] at hwf
        generalize runG word.apF (fun o => decide (locP o)) (fnAt M.pr 0).code f.toNat freshG = X at *
        have eSH : Hid (setG (ivS M.vars) 0 X = startS word.apF M.pr f.toNat) := eS
        have hwfH : Hid (setG (ivS M.vars) 0 X).wf := hwf
        clear hfs eS hwf eF hF0 hkl hlt hk ho hSS hzl
        go_wp2_with (first
          | (refine wpList_bld rfl 35 _ rfl #[(0, .int .i64 1)] rfl freshG.val bld_G1 ?_)
          | (go_at_call 21; (refine xS.mono ?_); rintro e w4 ⟨rfl, hb4⟩; (have hO4 : Hid (StM w w4 M SB (ivS M.vars)) := ho2.out.later hb4); (have hS4 := hO4.out.st); clear p0 p1 p2 p3)
          | (refine wpList_putG rfl _ _ rfl SB 0 (ivS M.vars) ivw.out (by omega) X hxw rfl rfl hS4 ?_; intro W5 hI5 hB5 hO5; (have hz5 : InS W5 (w.heap.size + 1) zeroS := (hO5 _ (by have := hO4.out.hS; omega)).trans hO4.out.z); (have hbE : Hid (Below w.heap.size w W5) := hB5 _ _ (by have := hO4.out.hS; omega) hO4.out.b); clear hB5 hO5)
          | (refine wpList_load_row rfl 38 _ rfl SB rfl _ _ _ _ hI5 huS.out rfl (infoS hwfH.out) ?_)
          | (refine wpList_store_row rfl 38 _ _ rfl (w.heap.size + 1) (Sts.cells (setG (ivS M.vars) 0 X)).toArray rfl rfl _ _ hz5 (infoS hwfH.out) (sizeSS zeroS_wf hwfH.out) (oneS _) ?_))
        exact bodyPost_ret (results_st Tryd.results10 _ _ (w.heap.size + 1) (setG (ivS M.vars) 0 X) hwfH.out (.int .i64 0) rfl rfl (hz5.put _)) rfl ⟨by rw [eSH.out], below_setRowG hbE.out (by omega) _⟩
  · have d : (a != 0) = true := by simpa using ca
    have e1 : (x, e) = (zeroS, 3) := by rw [he.out, startR]; rw [if_neg (by rw [hc.out]; exact ca)]
    obtain ⟨rfl, rfl⟩ : x = zeroS ∧ e = 3 := by simpa using e1
    clear he e1
    clear hc ca
    go_wp2_with (first
      | (go_at_call 19; (with_reducible refine hcall.mono ?_); rintro e w2 ⟨rfl, hb2⟩; (have hz2 : Hid (InS (w2.alloc (Obj.cells #[.int .i64 b, .int .i64 c] 63)) (w.heap.size + 1) zeroS) := (hz0.out.later hb2).later (boxed _ _)); (have hb2H : Hid (Below w.heap.size w (w2.alloc (Obj.cells #[.int .i64 b, .int .i64 c] 63))) := bthen (bthen hbH.out hb2) (boxed _ _)); (have hp2 : Hid (BoxP (w2.alloc (Obj.cells #[.int .i64 b, .int .i64 c] 63)) w.heap.size M) := (hbPH.out.later hb2).later (boxed _ _)))
      | (refine wpList_bld rfl 38 _ rfl #[] rfl zeroS.val bld_S0 ?_)
      | (refine wpList_store_row rfl 38 _ _ rfl (w.heap.size + 1) zeroS.cells.toArray rfl rfl _ _ hz2.out (infoS zeroS_wf) rfl (oneS zeroS) ?_))
    exact bodyPost_ret (results_st Tryd.results10 _ _ (w.heap.size + 1) zeroS zeroS_wf _ rfl rfl (hz2.out.put _)) rfl ⟨rfl, below_setRowG hb2H.out (by omega) _⟩
end Go.Proofs.YtjcmhaaohdmjpaaDoor.pg
/- A program, a state, a goroutine and fuel in one argument: its cells, where they lie; the argument, opened. -/
namespace Go.Proofs.YtjcmhaaohdmjpaaDoor.pg
open Go.ChangeShapes Go.WideShapes Go.ChangeAt Go.RowKit
set_option linter.unusedVariables false
set_option linter.unusedSimpArgs false
set_option maxRecDepth 100000
abbrev MPr.four (M : MPr) : List Value := [.slice M.va M.vars.length M.vcap, .int .i64 M.locks, .slice M.cha M.chans.length M.chcap, .slice M.fa M.fns.length M.fcap]
def caseL (M : MPr) (s : Sts) (g f : Int) : List Value := M.four ++ (s.cells ++ [.int .i64 g, .int .i64 f])
abbrev caseV (M : MPr) (s : Sts) (g f : Int) : Value := .agg (caseL M s g f).toArray
abbrev objCa (M : MPr) (s : Sts) (g f : Int) : Obj := .cells (caseL M s g f).toArray 48
theorem caseL_len {M : MPr} {s : Sts} {g f : Int} (hs : s.wf) : (caseL M s g f).length = 127 := by
  unfold caseL
  rw [List.length_append, List.length_append, Sts.len hs]
  rfl
/-- Where the argument lies. -/
def InCa (w : World) (B : Nat) (M : MPr) (s : Sts) (g f : Int) : Prop := w.heap[B]? = some (objCa M s g f)
theorem InCa.lt {w : World} {B : Nat} {M : MPr} {s : Sts} {g f : Int} (h : InCa w B M s g f) : B < w.heap.size := (Array.getElem?_eq_some_iff.mp h).1
theorem InCa.later {w w' : World} {B : Nat} {M : MPr} {s : Sts} {g f : Int} (h : InCa w B M s g f) (hb : Below w.heap.size w w') : InCa w' B M s g f := (hb.block B h.lt).trans h
theorem InCa.p {w : World} {B : Nat} {M : MPr} {s : Sts} {g f : Int} (h : InCa w B M s g f) : BoxP w B M := ⟨cell_ofG h rfl, cell_ofG h rfl, cell_ofG h rfl, cell_ofG h rfl⟩
theorem InCa.s {w : World} {B : Nat} {M : MPr} {s : Sts} {g f : Int} (h : InCa w B M s g f) : w.rangeAt B 4 s.cells := range_of h M.four s.cells [.int .i64 g, .int .i64 f] rfl 4 rfl
theorem caseL_at {M : MPr} {s : Sts} {g f : Int} (hs : s.wf) (k : Nat) : (caseL M s g f)[125 + k]? = ([.int .i64 g, .int .i64 f] : List Value)[k]? := by
  unfold caseL
  rw [List.getElem?_append_right (by simp; omega), List.getElem?_append_right (by rw [Sts.len hs]; simp; omega), Sts.len hs]
  congr 1
  simp
  omega
theorem InCa.g {w : World} {B : Nat} {M : MPr} {s : Sts} {g f : Int} (h : InCa w B M s g f) (hs : s.wf) : w.cell? ⟨B, 125, none⟩ = some (.int .i64 g) := cell_ofG h (by rw [List.getElem?_toArray]; exact caseL_at hs 0)
theorem InCa.f {w : World} {B : Nat} {M : MPr} {s : Sts} {g f : Int} (h : InCa w B M s g f) (hs : s.wf) : w.cell? ⟨B, 126, none⟩ = some (.int .i64 f) := cell_ofG h (by rw [List.getElem?_toArray]; exact caseL_at hs 1)
theorem cnt_last {s : Sts} (hs : s.wf) : s.cells[120]? = some (.int .i64 s.cnt) := by
  have h := (inS_new default s).cnt hs
  have h2 := cell_ofG (w := (default : World).alloc (objSt s)) (k := 120) (v := s.cells[120]'(by rw [Sts.len hs]; omega)) (inS_new default s) (by rw [List.getElem?_toArray]; exact List.getElem?_eq_getElem _)
  rw [h] at h2
  rw [List.getElem?_eq_getElem (by rw [Sts.len hs]; omega)]
  exact h2.symm
theorem InCa.c {w : World} {B : Nat} {M : MPr} {s : Sts} {g f : Int} (h : InCa w B M s g f) (hs : s.wf) : w.cell? ⟨B, 124, none⟩ = some (.int .i64 s.cnt) := h.s 120 _ (cnt_last hs)
theorem inCa_new (w : World) (M : MPr) (s : Sts) (g f : Int) : InCa (w.alloc (objCa M s g f)) w.heap.size M s g f := heap_alloc_new w _
/-- A goroutine of the argument's state. -/
theorem go_range {s : Sts} (hs : s.wf) {g : Nat} {x : Gr} (hx : s.gos[g]? = some x) : ∀ j u, x.cells[j]? = some u → s.cells[48 + g * 12 + j]? = some u := fun j u hj => by
  have hl : g < 6 := by have := (List.getElem?_eq_some_iff.mp hx).1; rw [hs.lg] at this; exact this
  have hj2 : j < 12 := by have := (List.getElem?_eq_some_iff.mp hj).1; rwa [Gr.len (hs.ag x (List.mem_of_getElem? hx))] at this
  obtain ⟨b, off, ha, _, hc⟩ := ((inS_new default s).gos hs).row (i := g) (row := x.cells) (by rw [List.getElem?_map, hx]; rfl)
  simp only [Option.some.injEq, Addr.mk.injEq, and_true] at ha
  obtain ⟨rfl, rfl⟩ := ha
  have h1 := hc j u hj
  have h2 := cell_ofG (w := (default : World).alloc (objSt s)) (k := 48 + (g * 12 + j)) (v := s.cells[48 + (g * 12 + j)]'(by rw [Sts.len hs]; omega)) (inS_new default s) (by rw [List.getElem?_toArray]; exact List.getElem?_eq_getElem _)
  rw [h1] at h2
  rw [Nat.add_assoc, List.getElem?_eq_getElem (by rw [Sts.len hs]; omega)]
  exact h2.symm
section
variable {H : Type} {enc : TypeId × Value → H} {w : World} {base : Nat} {spare : Nat → Bool} {held : Bool}
theorem four_of {M : MPr} {cs : List Value} (h : Value.agg cs.toArray = M.val) : cs = M.four := by
  have : (Value.agg cs.toArray) = .agg M.four.toArray := h
  simpa using this
theorem case_in {n : Nat} {cs : List Value} {y : DataW H × List MemPlace} (h : DataW.trod enc Tryd.prog w base spare held n 48 cs = some y) : ∃ (M : MPr) (s : Sts) (g f : Int), Value.agg cs.toArray = caseV M s g f ∧ M.lies w ∧ s.wf ∧ I64 g ∧ I64 f := by
  have hl : cs.length = 127 := by
    obtain ⟨xs, n, _, _, hl, _⟩ := DataW.trod_struct Tryd.underlying48 h
    rw [hl]
    kernel_rfl
  obtain ⟨_, _, t0⟩ := part_of Tryd.underlying48 h 0 _ rfl 0 4 rfl (by kernel_rfl)
  obtain ⟨_, _, t1⟩ := part_of Tryd.underlying48 h 1 _ rfl 4 121 rfl (by kernel_rfl)
  obtain ⟨_, _, t2⟩ := part_of Tryd.underlying48 h 2 _ rfl 125 1 rfl (by kernel_rfl)
  obtain ⟨_, _, t3⟩ := part_of Tryd.underlying48 h 3 _ rfl 126 1 rfl (by kernel_rfl)
  rw [one_at (by omega)] at t2 t3
  obtain ⟨M, hM, hMl⟩ := prog_in t0
  obtain ⟨s, hs, hsw⟩ := st_in (by rw [List.length_take, List.length_drop, hl]; rfl) t1
  obtain ⟨g, eg, bg⟩ := int_in Tryd.underlying3 t2
  obtain ⟨f, ef, bf⟩ := int_in Tryd.underlying3 t3
  refine ⟨M, s, g, f, ?_, hMl, hsw, bg, bf⟩
  have e4 := four_of hM
  rw [List.drop_zero] at e4
  have hcs : cs = caseL M s g f := by
    show cs = M.four ++ (s.cells ++ [.int .i64 g, .int .i64 f])
    rw [← e4, ← hs, ← eg, ← ef]
    have s1 : ∀ a k, cs.drop a = (cs.drop a).take k ++ cs.drop (a + k) := fun a k => by rw [← List.drop_drop]; exact (List.take_append_drop k _).symm
    have q0 := s1 0 4
    rw [List.drop_zero] at q0
    refine q0.trans ?_
    congr 1
    refine (s1 4 121).trans ?_
    congr 1
    rw [List.drop_eq_getElem_cons (l := cs) (i := 4 + 121) (by omega), List.drop_eq_getElem_cons (l := cs) (i := 4 + 121 + 1) (by omega), List.drop_eq_nil_of_le (by omega)]
  rw [hcs]
end
end Go.Proofs.YtjcmhaaohdmjpaaDoor.pg
