/- How the document's own machine runs a goroutine's local instructions. -/
import Derived.Test.YtjcmhaaohdmjpaaDoorM19
import Derived.Test.YtjcmhaaohdmjpaaDoorM4
namespace Go.Proofs.YtjcmhaaohdmjpaaDoor.pg
open Go.ChangeShapes Go.WideShapes Go.ChangeAt Go.RowKit
set_option linter.unusedVariables false
set_option linter.unusedSimpArgs false
set_option maxRecDepth 100000
theorem rended_any (g : Gr) (st why : Int) (w : World) : Calls Tryd.prog 38 #[g.val, .int .i64 st, .int .i64 why] w fun e w' => e = .returned (g.end st why).val ∧ Below w.heap.size w w' := by
  have hb := boxed2 w (objG g) (objG zeroG)
  obtain ⟨h1, h2⟩ := two_boxes w (objG g) (objG zeroG)
  go_enter Tryd.func38, Tryd.ntmps38
  go_upto_region 1 with fail
  rw [show (Obj.cells #[.int .i64 0, .int .i64 0, .int .i64 0, .int .i64 0, .int .i64 0, .int .i64 0, .int .i64 0, .int .i64 0, .int .i64 0, .int .i64 0, .int .i64 0, .int .i64 0] 35) = objG zeroG from rfl]
  generalize (w.alloc (objG g)).alloc (objG zeroG) = W at *
  have h1' : InG W w.heap.size g := h1
  have h2' : InG W (w.heap.size + 1) zeroG := h2
  have x1 := h1'.c1
  have x2 := h1'.c2
  clear h1 h2 h1'
  have hbH : Hid (Below w.heap.size w W) := hb
  clear hb
  go_wp2_with (refine wpList_store_row rfl 35 _ _ rfl (w.heap.size + 1) (g.end st why).cells.toArray rfl rfl _ _ h2' (infoG (end_len g st why)) rfl (oneG (g.end st why)) ?_)
  exact bodyPost_ret (results_g Tryd.results38 _ _ (w.heap.size + 1) (g.end st why) rfl rfl (h2'.set _)) rfl ⟨rfl, below_setRowG hbH.out (by omega) _⟩
theorem BoxP.set {w : World} {B B' k : Nat} {x : MPr} {v : Value} (h : BoxP w B x) (hne : B ≠ B') : BoxP (w.setCell ⟨B', k, none⟩ v) B x := by
  have key : ∀ q, (w.setCell ⟨B', k, none⟩ v).cell? ⟨B, q, none⟩ = w.cell? ⟨B, q, none⟩ := fun q => by simp only [World.cell?, Below.heap_setCell w ⟨B', k, none⟩ v B hne]
  exact ⟨(key 0).trans h.1, (key 1).trans h.2.1, (key 2).trans h.2.2.1, (key 3).trans h.2.2.2⟩
/-- Where all lies between two rounds. -/
structure Rn (w wr : World) (M : MPr) (h : Gr) : Prop where
  b : Below w.heap.size w wr
  p : BoxP wr w.heap.size M
  gb : InG wr (w.heap.size + 1) h
  z : InG wr (w.heap.size + 2) zeroG
theorem Rn.later {w wr w' : World} {M : MPr} {h : Gr} (r : Rn w wr M h) (hb : Below wr.heap.size wr w') : Rn w w' M h := ⟨bthen r.b hb, r.p.later hb, r.gb.later hb, r.z.later hb⟩
theorem Rn.cell {w wr : World} {M : MPr} {h h' : Gr} (r : Rn w wr M h) (k : Nat) (v : Value) (hg : InG (wr.setCell ⟨w.heap.size + 1, k, none⟩ v) (w.heap.size + 1) h') : Rn w (wr.setCell ⟨w.heap.size + 1, k, none⟩ v) M h' :=
  ⟨r.b.setCell (p := ⟨w.heap.size + 1, k, none⟩) (by show w.heap.size ≤ w.heap.size + 1; omega) _, r.p.set (by omega), hg, (Below.heap_setCell _ _ _ _ (by simp)).trans r.z⟩
theorem Rn.setR {w wr : World} {M : MPr} {h : Gr} (r : Rn w wr M h) (a x : Int) : Rn w (wr.setCell ⟨w.heap.size + 1, 4 + a.toNat, none⟩ (.int .i64 x)) M (h.set a x) := r.cell _ _ (r.gb.setR a x)
theorem Rn.setP {w wr : World} {M : MPr} {h : Gr} (r : Rn w wr M h) (x : Int) : Rn w (wr.setCell ⟨w.heap.size + 1, 2, none⟩ (.int .i64 x)) M { h with pc := x } := r.cell _ _ (r.gb.setP x)
theorem Rn.setS {w wr : World} {M : MPr} {h : Gr} (r : Rn w wr M h) (x : Int) : Rn w (wr.setCell ⟨w.heap.size + 1, 0, none⟩ (.int .i64 x)) M { h with st := x } := r.cell _ _ (r.gb.setS x)
set_option maxHeartbeats 4000000 in
theorem settled_any (M : MPr) (g : Gr) (f : Nat) (hok : (chk insP M.pr).1 = 0) (n0 : 0 ≤ g.fn) (n1 : g.fn < M.fns.length) (hg : GrIn (fnAt M.pr g.fn).code g) (hf : f ≤ 4096) (w : World) (hM : M.lies w) :
    Calls Tryd.prog 22 #[M.val, g.val, .int .i64 (f : Int)] w fun e w' => e = .returned (runG word.apF lcB (fnAt M.pr g.fn).code f { g with st := 1 }).val ∧ Below w.heap.size w w' := by
  obtain ⟨F, hFi, hFm⟩ : ∃ F, M.fns[g.fn.toNat]? = some F ∧ F ∈ M.fns := get_lt _ _ (by omega)
  have eF : fnAt M.pr g.fn = F.fn := by
    unfold fnAt
    rw [List.getD_eq_getElem?_getD]
    show ((M.fns.map MFn.fn)[g.fn.toNat]?).getD _ = _
    rw [List.getElem?_map, hFi]
    rfl
  have hc : GoodC F.regs F.code := by
    have := good_of hok F.fn (List.mem_map.mpr ⟨F, hFm, rfl⟩)
    exact this
  rw [eF] at hg ⊢
  have hwf : ∀ i ∈ F.code, i.wf := ((hM.2.2.2.2.2.2 F hFm).2.2.1)
  have eC : F.fn.code = F.code := rfl
  rw [eC] at hg ⊢
  obtain ⟨R, hR⟩ : ∃ R, Hid (R = runG word.apF lcB F.code f { g with st := 1 }) := ⟨_, rfl⟩
  rw [← hR.out]
  obtain ⟨q1, q2, q3⟩ := three_boxes w (objP M) (objG g) (objG zeroG)
  have s0 : Hid (Rn w (((w.alloc (objP M)).alloc (objG g)).alloc (objG zeroG)) M g) := ⟨boxed3 _ _ _ _, ⟨cell_ofG q1 rfl, cell_ofG q1 rfl, cell_ofG q1 rfl, cell_ofG q1 rfl⟩, q2, q3⟩
  have hMH : Hid (M.lies w) := hM
  have hcH : Hid (GoodC F.regs F.code) := hc
  have hwH : Hid (∀ i ∈ F.code, i.wf) := hwf
  clear q1 q2 q3 hM hc hwf eF eC hok
  go_enter Tryd.func22, Tryd.ntmps22
  go_upto_region 1 with fail
  rw [show (Obj.cells #[.int .i64 0, .int .i64 0, .int .i64 0, .int .i64 0, .int .i64 0, .int .i64 0, .int .i64 0, .int .i64 0, .int .i64 0, .int .i64 0, .int .i64 0, .int .i64 0] 35) = objG zeroG from rfl]
  generalize ((w.alloc (objP M)).alloc (objG g)).alloc (objG zeroG) = W at *
  have z0 := s0.out.gb.c0
  have z0f := s0.out.gb.fz 0
  go_upto_region 2 with (refine wpList_puti rfl 3 _ _ rfl ⟨w.heap.size + 1, 0, none⟩ rfl 1 rfl (by kernel_rfl) _ z0 z0f ?_; intro W1 hW1; (have s1 : Hid (Rn w W1 M { g with st := 1 }) := by rw [hW1]; exact s0.out.setS 1); clear hW1 z0 z0f s0)
  simp only [Act.put, List.setIfInBounds_toArray, List.set_cons_zero, List.set_cons_succ]
  go_loopw [2] (fun u wr => ∃ (k : Nat) (h : Gr), u = .int .i64 (k : Int) ∧ k ≤ 4096 ∧ Rn w wr M h ∧ runG word.apF lcB F.code k h = R ∧ GrIn F.code h ∧ (h.st = 1 ∧ h.fn = g.fn)) (fun u _ => (intOf u).toNat)
  case atStart => exact ⟨f, { g with st := 1 }, rfl, hf, s1.out, hR.out.symm, ⟨hg.p0, hg.p1, hg.rl, hg.ri⟩, rfl, rfl⟩
  case round =>
    clear s1 hR hg
    obtain ⟨k, h, rfl, hk, hs, he, hi, hh1, hh2⟩ := hrel
    have hsH : Hid (Rn w wr M h) := hs
    obtain ⟨m1, m2⟩ := insAt_mem hi.p0 hi.p1
    obtain ⟨fb, fo, hfix, hfb, fc0, fc1, fc2, fc3⟩ := fn_ix hMH.out.2.2.1 g.fn.toNat F hFi
    obtain ⟨ib, io, hix, hib, ic0, ic1, ic2, ic3, ic4⟩ := ins_ix ((hMH.out.2.2.2.2.2.2 F hFm).1) h.pc.toNat _ m1
    have hpe : ((h.pc.toNat : Nat) : Int) = h.pc := by have := hi.p0; omega
    have hfe : ((g.fn.toNat : Nat) : Int) = h.fn := by omega
    rw [hpe] at hix
    rw [hfe] at hfix
    have hop := (hwH.out _ m2).1
    have hn64 := (hwH.out _ m2).2.2.2.2
    have cL : ∀ wx, Calls Tryd.prog 36 #[.int .i64 (insAt F.code h.pc).op] wx _ := fun wx => prog.reflocal_any (insAt F.code h.pc).op hop.1 hop.2 wx _ rfl
    have hl : h.rg.length = 8 := hi.rl
    have p0 := hi.p0
    have p1 : h.pc < 64 := by have := hi.p1; have := hcH.out.l64; omega
    have gi := hcH.out.each _ m2
    have r8 := hcH.out.r8
    have hgb := hi.ri.get
    have lat : ∀ {b q : Nat} {v : Value}, b < w.heap.size → w.cell? ⟨b, q, none⟩ = some v → ∀ w', Below w.heap.size w w' → w'.cell? ⟨b, q, none⟩ = some v := fun {b q v} hb hv w' hw' => (hw'.cell (p := ⟨b, q, none⟩) hb).trans hv
    have lin : locP (insAt F.code h.pc).op → GrIn F.code (loc1 word.apF h (insAt F.code h.pc)) := fun q => loc1_in hcH.out hi q hn64 fun q1 q2 => (hapF _ _ _ q1 q2 (hgb _) (hgb _)).1
    generalize hI : insAt F.code h.pc = i at *
    have fStop : ¬ locP i.op → ∀ k, runG word.apF lcB F.code k h = h := fun c k => runG_stop (fun q => c (by rw [hI] at q; exact of_decide_eq_true q.2)) k
    have fZero : locP i.op → runG word.apF lcB F.code 0 h = { h with st := 5 } := fun c => runG_zero ⟨hh1, by rw [hI]; exact decide_eq_true c⟩
    have fStep : locP i.op → ∀ k, runG word.apF lcB F.code (k + 1) h = runG word.apF lcB F.code k (loc1 word.apF h i) := fun c k => by have := runG_step (ap := word.apF) (lc := lcB) (code := F.code) (g := h) ⟨hh1, by rw [hI]; exact decide_eq_true c⟩ k; rw [hI] at this; exact this
    have hrg : w.rangeAt ib io i.cells := fun q v hv => by
      match q, hv with
      | 0, hv => cases hv; exact ic0
      | 1, hv => cases hv; exact ic1
      | 2, hv => cases hv; exact ic2
      | 3, hv => cases hv; exact ic3
      | 4, hv => cases hv; exact ic4
    go_wp2_with fail
    obtain ⟨ZI, hZ1, hZ2, _⟩ := zero_big (P := Tryd.prog) (t := 74) (n := 5) (by kernel_rfl)
    have hH : Below wr.heap.size wr wr.drew := bey_drew wr
    refine wp_region_held_drew (S := fun w' => Below wr.heap.size wr w') (by kernel_rfl) hH (fun _ => ?_)
    refine reg_move (i := 0) rfl (by kernel_rfl) (by kernel_rfl) (by kernel_rfl) (fun _ _ _ _ h => h) rfl (.pointer (some ⟨w.heap.size, 3, none⟩)) (fun _ => by kernel_rfl) hH ?_
    simp only [Act.put, List.getElem_toArray, List.getElem_cons_succ, List.getElem_cons_zero, List.setIfInBounds_toArray, List.set_cons_zero, List.set_cons_succ]
    refine reg_load1 (i := 1) rfl (by kernel_rfl) (by kernel_rfl) (by kernel_rfl) (fun _ _ _ _ h => h) rfl 24 _ rfl ⟨w.heap.size, 3, none⟩ rfl _ Tryd.underlying24 rfl (.slice M.fa M.fns.length M.fcap) (fun w' h' => (hsH.out.p.later h').2.2.2) hH ?_
    simp only [Act.put, List.getElem_toArray, List.getElem_cons_succ, List.getElem_cons_zero, List.setIfInBounds_toArray, List.set_cons_zero, List.set_cons_succ]
    refine reg_move (i := 2) rfl (by kernel_rfl) (by kernel_rfl) (by kernel_rfl) (fun _ _ _ _ h => h) rfl (.pointer (some ⟨w.heap.size + 1, 1, none⟩)) (fun _ => by kernel_rfl) hH ?_
    simp only [Act.put, List.getElem_toArray, List.getElem_cons_succ, List.getElem_cons_zero, List.setIfInBounds_toArray, List.set_cons_zero, List.set_cons_succ]
    refine reg_load1 (i := 3) rfl (by kernel_rfl) (by kernel_rfl) (by kernel_rfl) (fun _ _ _ _ h => h) rfl 3 _ rfl ⟨w.heap.size + 1, 1, none⟩ rfl _ Tryd.underlying3 rfl _ (fun w' h' => (hsH.out.gb.later h').c1) hH ?_
    simp only [Act.put, List.getElem_toArray, List.getElem_cons_succ, List.getElem_cons_zero, List.setIfInBounds_toArray, List.set_cons_zero, List.set_cons_succ]
    refine reg_move (i := 4) rfl (by kernel_rfl) (by kernel_rfl) (by kernel_rfl) (fun _ _ _ _ h => h) rfl (.pointer (some ⟨fb, fo, none⟩)) (fun wx => by unfold execOp; exact run_valueS (hfix wx)) hH ?_
    simp only [Act.put, List.getElem_toArray, List.getElem_cons_succ, List.getElem_cons_zero, List.setIfInBounds_toArray, List.set_cons_zero, List.set_cons_succ]
    refine reg_move (i := 5) rfl (by kernel_rfl) (by kernel_rfl) (by kernel_rfl) (fun _ _ _ _ h => h) rfl (.pointer (some ⟨fb, fo + 2, none⟩)) (fun _ => by kernel_rfl) hH ?_
    simp only [Act.put, List.getElem_toArray, List.getElem_cons_succ, List.getElem_cons_zero, List.setIfInBounds_toArray, List.set_cons_zero, List.set_cons_succ]
    refine reg_load1 (i := 6) rfl (by kernel_rfl) (by kernel_rfl) (by kernel_rfl) (fun _ _ _ _ h => h) rfl 55 _ rfl ⟨fb, fo + 2, none⟩ rfl _ Tryd.underlying55 rfl (.slice F.ca F.code.length F.ccap) (fun w' h' => lat hfb fc2 w' (bthen hsH.out.b h')) hH ?_
    simp only [Act.put, List.getElem_toArray, List.getElem_cons_succ, List.getElem_cons_zero, List.setIfInBounds_toArray, List.set_cons_zero, List.set_cons_succ]
    refine reg_move (i := 7) rfl (by kernel_rfl) (by kernel_rfl) (by kernel_rfl) (fun _ _ _ _ h => h) rfl (.pointer (some ⟨w.heap.size + 1, 2, none⟩)) (fun _ => by kernel_rfl) hH ?_
    simp only [Act.put, List.getElem_toArray, List.getElem_cons_succ, List.getElem_cons_zero, List.setIfInBounds_toArray, List.set_cons_zero, List.set_cons_succ]
    refine reg_load1 (i := 8) rfl (by kernel_rfl) (by kernel_rfl) (by kernel_rfl) (fun _ _ _ _ h => h) rfl 3 _ rfl ⟨w.heap.size + 1, 2, none⟩ rfl _ Tryd.underlying3 rfl _ (fun w' h' => (hsH.out.gb.later h').c2) hH ?_
    simp only [Act.put, List.getElem_toArray, List.getElem_cons_succ, List.getElem_cons_zero, List.setIfInBounds_toArray, List.set_cons_zero, List.set_cons_succ]
    refine reg_move (i := 9) rfl (by kernel_rfl) (by kernel_rfl) (by kernel_rfl) (fun _ _ _ _ h => h) rfl (.pointer (some ⟨ib, io, none⟩)) (fun wx => by unfold execOp; exact run_valueS (hix wx)) hH ?_
    simp only [Act.put, List.getElem_toArray, List.getElem_cons_succ, List.getElem_cons_zero, List.setIfInBounds_toArray, List.set_cons_zero, List.set_cons_succ]
    refine reg_load (i := 10) rfl (by kernel_rfl) (by kernel_rfl) (by kernel_rfl) (fun _ _ _ _ h => h) rfl 74 _ rfl ib io rfl i.cells _ (fun w' h' => fun q v hv => lat hib (hrg q v hv) w' (bthen hsH.out.b h')) Tryd.underlying74 rfl (by kernel_rfl) hH ?_
    simp only [Act.put, List.getElem_toArray, List.getElem_cons_succ, List.getElem_cons_zero, List.setIfInBounds_toArray, List.set_cons_zero, List.set_cons_succ]
    have hH1 : Below wr.heap.size wr (wr.drew.alloc (.cells ZI 74)) := bthen hH (boxed _ _)
    refine reg_one (i := 11) (by kernel_rfl) rfl rfl (wpList_alloc_big rfl 74 rfl hZ1 (wpList_nil (And.intro hH1 fun _ => ?_)))
    simp only [Act.put, List.getElem_toArray, List.getElem_cons_succ, List.getElem_cons_zero, List.setIfInBounds_toArray, List.set_cons_zero, List.set_cons_succ]
    have hH2 : Below wr.heap.size wr (wr.drew.alloc (.cells i.cells.toArray 74)) := bthen hH (boxed _ _)
    refine reg_one (i := 12) (by kernel_rfl) rfl rfl (wpList_store_new (w := wr.drew) rfl 74 _ _ rfl rfl ZI i.cells.toArray rfl (by kernel_rfl) hZ2 (by simp [Ins.cells, Value.oneCell']) (wpList_nil (And.intro hH2 fun _ => ?_)))
    simp only [Act.put, List.getElem_toArray, List.getElem_cons_succ, List.getElem_cons_zero, List.setIfInBounds_toArray, List.set_cons_zero, List.set_cons_succ]
    refine wpAnyH_done (by kernel_rfl) ?_ _
    have hV : Hid (Rn w (wr.drew.alloc (.cells i.cells.toArray 74)) M h) := hsH.out.later hH2
    have hIb : (wr.drew.alloc (.cells i.cells.toArray 74)).heap[wr.heap.size]? = some (.cells i.cells.toArray 74) := heap_alloc_new wr.drew _
    have bI : BoxI (wr.drew.alloc (.cells i.cells.toArray 74)) wr.heap.size i := ⟨cell_ofG hIb rfl, cell_ofG hIb rfl, cell_ofG hIb rfl, cell_ofG hIb rfl, cell_ofG hIb rfl⟩
    have hBI : w.heap.size + 2 < wr.heap.size := hsH.out.z.lt
    have hszI : wr.drew.heap.size = wr.heap.size := rfl
    rw [hszI]
    generalize wr.drew.alloc (.cells i.cells.toArray 74) = V at *
    generalize wr.heap.size = IB at *
    clear hH hH1 hH2 hIb hszI hix hfix hrg ic0 ic1 ic2 ic3 ic4 fc0 fc1 fc2 fc3 lat hZ1 hZ2 hs hsH hfb hib hI hpe hfe m1 m2 hi hcH hwH hMH hFi hFm n0 n1 hf
    have hh1' : Hid (h.st = 1) := hh1
    have hh2' : Hid (h.fn = g.fn) := hh2
    clear hh1 hh2
    have hh1 := hh1'
    have hh2 := hh2'
    clear hh1' hh2'
    have bIH : Hid (BoxI V IB i) := bI
    obtain ⟨i0, i1, i2, i3, i4⟩ := bI
    have hg2 := hV.out.gb
    have hz2 := hV.out.z
    have heH : Hid (runG word.apF lcB F.code k h = R) := he
    clear he
    by_cases c2 : locP i.op
    · have cLt : ∀ wx, Calls Tryd.prog 36 #[.int .i64 i.op] wx fun e w' => e = .returned (.bool true) ∧ w' = wx := fun wx => by have := cL wx; rw [loc_lcB, show lcB i.op = true from decide_eq_true c2] at this; exact this
      clear cL fStop
      cases k with
      | zero =>
        have hfin : Hid (R = { h with st := 5 }) := by show _ = _; rw [← heH.out]; exact fZero c2
        have hX5 : ({ h with st := 5 } : Gr).rg.length = 8 := hl
        rw [show (((0 : Nat) : Int)) = 0 from rfl]
        have z0 := hg2.c0
        have z0f := hg2.fz 0
        clear fZero fStep lin gi hgb c2 hz2 hg2
        go_wp2_with (first
          | (go_at_call 36; (with_reducible refine (cLt _).mono ?_); rintro e w2 ⟨rfl, rfl⟩)
          | (refine wpList_puti rfl 3 _ _ rfl ⟨w.heap.size + 1, 0, none⟩ rfl 5 rfl (by kernel_rfl) _ z0 z0f ?_; intro W1 hW1; (have hr2 : Hid (Rn w W1 M { h with st := 5 }) := by rw [hW1]; exact hV.out.setS 5); (have hg2 := hr2.out.gb); (have hz2 := hr2.out.z); clear hW1 z0 z0f)
          | (refine wpList_load_row rfl 35 _ rfl (w.heap.size + 1) rfl _ _ _ _ hg2 Tryd.underlying35 rfl (infoG hX5) ?_)
          | (refine wpList_store_row rfl 35 _ _ rfl (w.heap.size + 2) (Gr.cells { h with st := 5 }).toArray rfl rfl _ _ hz2 (infoG hX5) (sizeGG rfl hX5) (oneG _) ?_))
        exact bodyPost_ret (results_g Tryd.results22 _ _ (w.heap.size + 2) { h with st := 5 } hX5 rfl (hz2.set _)) rfl ⟨by rw [hfin.out], below_setRowG hr2.out.b (by omega) _⟩
      | succ k =>
        have hnx0 : runG word.apF lcB F.code k (loc1 word.apF h i) = R := by rw [← heH.out]; exact (fStep c2 k).symm
        have hin0 := lin c2
        have hk0 : (((k + 1 : Nat) : Int) == 0) = false := by simp; omega
        have hkm : ((k + 1 : Nat) : Int) - 1 = (k : Int) := by omega
        have hkw : wrap64 (((k + 1 : Nat) : Int) - 1) = (k : Int) := by rw [hkm]; unfold wrap64; omega
        have hkn : k < (((k + 1 : Nat) : Int)).toNat := by omega
        generalize ((k + 1 : Nat) : Int) = K at *
        clear fZero fStep lin heH hkm hop hn64
        obtain ⟨op, a, b, c, nn⟩ := i
        have ga : (1 ≤ op ∧ op ≤ 36) ∨ op = 40 ∨ op = 41 ∨ op = 43 ∨ op = 44 → inR a F.regs := gi.a
        have gb : (1 ≤ op ∧ op ≤ 36) ∨ op = 41 → inR b F.regs := gi.b
        have gc : (1 ≤ op ∧ op ≤ 36) → inR c F.regs := gi.c
        have ho' : (1 ≤ op ∧ op ≤ 36) ∨ (40 ≤ op ∧ op ≤ 45) := c2
        clear gi c2 bIH
        simp only at i0 i1 i2 i3 i4 cLt
        by_cases h40 : op = 40
        · subst h40
          have qa := ga (by omega)
          have ra := hg2.reg hl a (by omega) (by omega)
          have fa := hg2.fz (4 + a.toNat)
          have xa := ix8 (w.heap.size + 1) a (by omega) (by omega)
          have eN : loc1 word.apF h ⟨40, a, b, c, nn⟩ = (h.set a nn).adv := by simp [loc1]
          rw [eN] at hnx0 hin0
          have hnx : Hid (runG word.apF lcB F.code k ((h.set a nn).adv) = R) := hnx0
          have hin : Hid (GrIn F.code ((h.set a nn).adv)) := hin0
          clear hnx0 hin0 eN
          go_wp2_with (first
            | (go_at_call 36; (with_reducible refine (cLt _).mono ?_); rintro e w2 ⟨rfl, rfl⟩)
            | (refine wpList_puti rfl 2 _ _ rfl ⟨w.heap.size + 1, 4 + a.toNat, none⟩ rfl (nn) rfl (by kernel_rfl) _ ra fa ?_; intro W1 hW1; (have hr1 : Hid (Rn w W1 M (h.set a nn)) := by rw [hW1]; exact hV.out.setR a (nn)); (have x2 := hr1.out.gb.c2); (have f2 := hr1.out.gb.fz 2); clear hW1 ra fa)
            | (refine wpList_puti rfl 3 _ _ rfl ⟨w.heap.size + 1, 2, none⟩ rfl (h.pc + 1) (by rw [← pc1 p0 p1]; rfl) (by kernel_rfl) _ x2 f2 ?_; intro W2 hW2; (have hr2 : Hid (Rn w W2 M (h.set a nn).adv) := by rw [hW2]; exact hr1.out.setP (h.pc + 1)); clear hW2 x2 f2))
          simp only [Act.put]
          go_roundw
          case rel => exact ⟨k, ((h.set a nn).adv), by first | rfl | (rw [hkw]), by omega, hr2.out, hnx.out, hin.out, hh1.out, hh2.out⟩
          case measure => first | (simp [intOf]; done) | (simp [intOf]; omega)
        by_cases h41 : op = 41
        · subst h41
          have qa := ga (by omega)
          have qb := gb (by omega)
          have ra := hg2.reg hl a (by omega) (by omega)
          have fa := hg2.fz (4 + a.toNat)
          have xa := ix8 (w.heap.size + 1) a (by omega) (by omega)
          have rb := hg2.reg hl b (by omega) (by omega)
          have xb := ix8 (w.heap.size + 1) b (by omega) (by omega)
          have eN : loc1 word.apF h ⟨41, a, b, c, nn⟩ = (h.set a (h.get b)).adv := by simp [loc1]
          rw [eN] at hnx0 hin0
          have hnx : Hid (runG word.apF lcB F.code k ((h.set a (h.get b)).adv) = R) := hnx0
          have hin : Hid (GrIn F.code ((h.set a (h.get b)).adv)) := hin0
          clear hnx0 hin0 eN
          generalize h.get b = v at *
          go_wp2_with (go_at_call 36; (with_reducible refine (cLt _).mono ?_); rintro e w2 ⟨rfl, rfl⟩)
          go_region
          obtain ⟨W1, hW1⟩ : ∃ W1, W1 = (w2.setCell ⟨w.heap.size + 1, 4 + a.toNat, none⟩ (.int .i64 v)).drew := ⟨_, rfl⟩
          have e1 : w2.drew.setCell ⟨w.heap.size + 1, 4 + a.toNat, none⟩ (.int .i64 v) = W1 := by rw [hW1]; rfl
          have hr1 : Hid (Rn w W1 M (h.set a v)) := by rw [hW1]; exact (hV.out.setR a v).later (Below.refl _ _).drew
          have x2 := hr1.out.gb.c2
          have f2 := hr1.out.gb.fz 2
          first | rw [e1] | rw [← hW1]
          clear hW1 e1 ra fa rb i0 i1 i2 i3 i4
          go_wp2_with (first
            | (refine wpList_puti rfl 3 _ _ rfl ⟨w.heap.size + 1, 2, none⟩ rfl (h.pc + 1) (by rw [← pc1 p0 p1]; rfl) (by kernel_rfl) _ x2 f2 ?_; intro W2 hW2; (have hr2 : Hid (Rn w W2 M (h.set a v).adv) := by rw [hW2]; exact hr1.out.setP (h.pc + 1)); clear hW2 x2 f2))
          simp only [Act.put]
          go_roundw
          case rel => exact ⟨k, ((h.set a v).adv), by first | rfl | (rw [hkw]), by omega, hr2.out, hnx.out, hin.out, hh1.out, hh2.out⟩
          case measure => first | (simp [intOf]; done) | (simp [intOf]; omega)
        by_cases h42 : op = 42
        · subst h42
          have hr1 : Hid (Rn w V M h) := hV
          have x2 := hg2.c2
          have f2 := hg2.fz 2
          have eN : loc1 word.apF h ⟨42, a, b, c, nn⟩ = { h with pc := a } := by simp [loc1]
          rw [eN] at hnx0 hin0
          have hnx : Hid (runG word.apF lcB F.code k ({ h with pc := a }) = R) := hnx0
          have hin : Hid (GrIn F.code ({ h with pc := a })) := hin0
          clear hnx0 hin0 eN
          go_wp2_with (first
            | (go_at_call 36; (with_reducible refine (cLt _).mono ?_); rintro e w2 ⟨rfl, rfl⟩)
            | (refine wpList_puti rfl 3 _ _ rfl ⟨w.heap.size + 1, 2, none⟩ rfl (a) rfl (by kernel_rfl) _ x2 f2 ?_; intro W2 hW2; (have hr2 : Hid (Rn w W2 M { h with pc := a }) := by rw [hW2]; exact hr1.out.setP (a)); clear hW2 x2 f2))
          simp only [Act.put]
          go_roundw
          case rel => exact ⟨k, { h with pc := a }, by first | rfl | (rw [hkw]), by omega, hr2.out, hnx.out, hin.out, hh1.out, hh2.out⟩
          case measure => first | (simp [intOf]; done) | (simp [intOf]; omega)
        by_cases h43 : op = 43
        · subst h43
          have qa := ga (by omega)
          have ra := hg2.reg hl a (by omega) (by omega)
          have fa := hg2.fz (4 + a.toNat)
          have xa := ix8 (w.heap.size + 1) a (by omega) (by omega)
          have hr1 : Hid (Rn w V M h) := hV
          have x2 := hg2.c2
          have f2 := hg2.fz 2
          by_cases z : h.get a = 0
          · have eN : loc1 word.apF h ⟨43, a, b, c, nn⟩ = h.adv := by simp [loc1, z]
            rw [eN] at hnx0 hin0
            have hnx : Hid (runG word.apF lcB F.code k (h.adv) = R) := hnx0
            have hin : Hid (GrIn F.code (h.adv)) := hin0
            clear hnx0 hin0 eN
            rw [z] at ra
            clear z
            go_wp2_with (first
              | (go_at_call 36; (with_reducible refine (cLt _).mono ?_); rintro e w2 ⟨rfl, rfl⟩)
              | (refine wpList_puti rfl 3 _ _ rfl ⟨w.heap.size + 1, 2, none⟩ rfl (h.pc + 1) (by rw [← pc1 p0 p1]; rfl) (by kernel_rfl) _ x2 f2 ?_; intro W2 hW2; (have hr2 : Hid (Rn w W2 M h.adv) := by rw [hW2]; exact hr1.out.setP (h.pc + 1)); clear hW2 x2 f2))
            simp only [Act.put]
            go_roundw
            case rel => exact ⟨k, h.adv, by first | rfl | (rw [hkw]), by omega, hr2.out, hnx.out, hin.out, hh1.out, hh2.out⟩
            case measure => first | (simp [intOf]; done) | (simp [intOf]; omega)
          · have eN : loc1 word.apF h ⟨43, a, b, c, nn⟩ = { h with pc := b } := by simp [loc1, z]
            rw [eN] at hnx0 hin0
            have hnx : Hid (runG word.apF lcB F.code k ({ h with pc := b }) = R) := hnx0
            have hin : Hid (GrIn F.code ({ h with pc := b })) := hin0
            clear hnx0 hin0 eN
            generalize h.get a = v at *
            have hv : (v != 0) = true := by simpa using z
            clear z
            go_wp2_with (first
              | (go_at_call 36; (with_reducible refine (cLt _).mono ?_); rintro e w2 ⟨rfl, rfl⟩)
              | (refine wpList_puti rfl 3 _ _ rfl ⟨w.heap.size + 1, 2, none⟩ rfl (b) rfl (by kernel_rfl) _ x2 f2 ?_; intro W2 hW2; (have hr2 : Hid (Rn w W2 M { h with pc := b }) := by rw [hW2]; exact hr1.out.setP (b)); clear hW2 x2 f2))
            simp only [Act.put]
            go_roundw
            case rel => exact ⟨k, { h with pc := b }, by first | rfl | (rw [hkw]), by omega, hr2.out, hnx.out, hin.out, hh1.out, hh2.out⟩
            case measure => first | (simp [intOf]; done) | (simp [intOf]; omega)
        by_cases h44 : op = 44
        · subst h44
          have qa := ga (by omega)
          have ra := hg2.reg hl a (by omega) (by omega)
          have fa := hg2.fz (4 + a.toNat)
          have xa := ix8 (w.heap.size + 1) a (by omega) (by omega)
          have hr1 : Hid (Rn w V M h) := hV
          have x2 := hg2.c2
          have f2 := hg2.fz 2
          by_cases z : h.get a = 0
          · have hfin : Hid (R = h.end 4 1) := by
              show _ = _
              rw [← hnx0, show loc1 word.apF h ⟨44, a, b, c, nn⟩ = h.end 4 1 by simp [loc1, z]]
              exact runG_stop (fun q => absurd q.1 (by show ¬ ((4 : Int) = 1); decide)) k
            clear hnx0 hin0
            rw [z] at ra
            clear z
            have cE := rended_any h 4 1
            have hX := end_len h 4 1
            clear hz2
            go_wp2_with (first
              | (go_at_call 36; (with_reducible refine (cLt _).mono ?_); rintro e w2 ⟨rfl, rfl⟩)
              | (refine wpList_load_row rfl 35 _ rfl (w.heap.size + 1) rfl _ _ _ _ hg2 Tryd.underlying35 rfl (infoG hl) ?_)
              | (go_at_call 38; (with_reducible refine (cE _).mono ?_); rintro e W2 ⟨rfl, hb3⟩; (have hr2 : Hid (Rn w W2 M h) := hV.out.later hb3); (have hz2 := hr2.out.z))
              | (refine wpList_store_row rfl 35 _ _ rfl (w.heap.size + 2) (Gr.cells (h.end 4 1)).toArray rfl rfl _ _ hz2 (infoG hX) (sizeGG rfl hX) (oneG _) ?_))
            exact bodyPost_ret (results_g Tryd.results22 _ _ (w.heap.size + 2) (h.end 4 1) hX rfl (hz2.set _)) rfl ⟨by rw [hfin.out], below_setRowG hr2.out.b (by omega) _⟩
          · have eN : loc1 word.apF h ⟨44, a, b, c, nn⟩ = h.adv := by simp [loc1, z]
            rw [eN] at hnx0 hin0
            have hnx : Hid (runG word.apF lcB F.code k (h.adv) = R) := hnx0
            have hin : Hid (GrIn F.code (h.adv)) := hin0
            clear hnx0 hin0 eN
            generalize h.get a = v at *
            have hv : (v == 0) = false := by simpa using z
            clear z
            go_wp2_with (first
              | (go_at_call 36; (with_reducible refine (cLt _).mono ?_); rintro e w2 ⟨rfl, rfl⟩)
              | (refine wpList_puti rfl 3 _ _ rfl ⟨w.heap.size + 1, 2, none⟩ rfl (h.pc + 1) (by rw [← pc1 p0 p1]; rfl) (by kernel_rfl) _ x2 f2 ?_; intro W2 hW2; (have hr2 : Hid (Rn w W2 M h.adv) := by rw [hW2]; exact hr1.out.setP (h.pc + 1)); clear hW2 x2 f2))
            simp only [Act.put]
            go_roundw
            case rel => exact ⟨k, h.adv, by first | rfl | (rw [hkw]), by omega, hr2.out, hnx.out, hin.out, hh1.out, hh2.out⟩
            case measure => first | (simp [intOf]; done) | (simp [intOf]; omega)
        by_cases h45 : op = 45
        · subst h45
          have hfin : Hid (R = h.end 3 0) := by
            show _ = _
            rw [← hnx0, show loc1 word.apF h ⟨45, a, b, c, nn⟩ = h.end 3 0 by simp [loc1]]
            exact runG_stop (fun q => absurd q.1 (by show ¬ ((3 : Int) = 1); decide)) k
          clear hnx0 hin0
          have cE := rended_any h 3 0
          have hX := end_len h 3 0
          clear hz2
          go_wp2_with (first
            | (go_at_call 36; (with_reducible refine (cLt _).mono ?_); rintro e w2 ⟨rfl, rfl⟩)
            | (refine wpList_load_row rfl 35 _ rfl (w.heap.size + 1) rfl _ _ _ _ hg2 Tryd.underlying35 rfl (infoG hl) ?_)
            | (go_at_call 38; (with_reducible refine (cE _).mono ?_); rintro e W2 ⟨rfl, hb3⟩; (have hr2 : Hid (Rn w W2 M h) := hV.out.later hb3); (have hz2 := hr2.out.z))
            | (refine wpList_store_row rfl 35 _ _ rfl (w.heap.size + 2) (Gr.cells (h.end 3 0)).toArray rfl rfl _ _ hz2 (infoG hX) (sizeGG rfl hX) (oneG _) ?_))
          exact bodyPost_ret (results_g Tryd.results22 _ _ (w.heap.size + 2) (h.end 3 0) hX rfl (hz2.set _)) rfl ⟨by rw [hfin.out], below_setRowG hr2.out.b (by omega) _⟩
        have ok1 : 1 ≤ op ∧ op ≤ 36 := by omega
        have qa := ga (.inl ok1)
        have qb := gb (.inl ok1)
        have qc := gc ok1
        have e40 : (op == 40) = false := by simp; omega
        have e41 : (op == 41) = false := by simp; omega
        have e42 : (op == 42) = false := by simp; omega
        have e43 : (op == 43) = false := by simp; omega
        have e44 : (op == 44) = false := by simp; omega
        have d36 : decide (op ≤ 36) = true := decide_eq_true ok1.2
        have ra := hg2.reg hl a (by omega) (by omega)
        have fa := hg2.fz (4 + a.toNat)
        have xa := ix8 (w.heap.size + 1) a (by omega) (by omega)
        have rb := hg2.reg hl b (by omega) (by omega)
        have xb := ix8 (w.heap.size + 1) b (by omega) (by omega)
        have rc := hg2.reg hl c (by omega) (by omega)
        have xc := ix8 (w.heap.size + 1) c (by omega) (by omega)
        have eL : loc1 word.apF h ⟨op, a, b, c, nn⟩ = if (word.apF op (h.get b) (h.get c)).2 = 20 then h.end 4 2 else if (word.apF op (h.get b) (h.get c)).2 = 21 then h.end 4 3 else (h.set a (word.apF op (h.get b) (h.get c)).1).adv := by
          simp [loc1, h40, h41, h42, h43, h44, h45]
        rw [eL] at hnx0 hin0
        by_cases h15 : op ≤ 15
        · have d15 : decide (op ≤ 15) = true := decide_eq_true h15
          have hA := fun wx => (word.apF_one (a := h.get b) ok1.1 h15 (hgb b.toNat) 0 (h.get c) wx)
          have hy := (hA w).2.2.2
          have cA' : ∀ wx, Calls Tryd.prog 37 #[.int .i64 op, .int .i64 (h.get b), .int .i64 0] wx fun e w' => e = .returned (.tuple #[.int .i64 (word.apF op (h.get b) (h.get c)).1, .int .i64 (word.apF op (h.get b) (h.get c)).2]) ∧ Below wx.heap.size wx w' := fun wx => ((hA wx).2.1).mono fun e w' ⟨he, hw⟩ => ⟨he, by rw [hw]; exact Below.refl _ _⟩
          rw [hy] at hnx0 hin0 cA'
          simp only [show ¬ ((0 : Int) = 20) by decide, show ¬ ((0 : Int) = 21) by decide, if_false] at hnx0 hin0
          clear hA hy eL
          generalize (word.apF op (h.get b) (h.get c)).1 = x at *
          have hnx : Hid (runG word.apF lcB F.code k ((h.set a x).adv) = R) := hnx0
          have hin : Hid (GrIn F.code ((h.set a x).adv)) := hin0
          generalize h.get b = vb at *
          generalize h.get c = vc at *
          clear hnx0 hin0 h40 h41 h42 h43 h44 h45 ok1 h15 ho' ga gb gc hgb
          go_wp2_with (go_at_call 36; (with_reducible refine (cLt _).mono ?_); rintro e w2 ⟨rfl, rfl⟩)
          have s0 := fun s => bey_cell i0 s
          have s1 := fun s => bey_cell i1 s
          have s2 := fun s => bey_cell i2 s
          have s3 := fun s => bey_cell i3 s
          have sb := fun s => bey_cell rb s
          have sc := fun s => bey_cell rc s
          have hne := bey_some w2
          refine wp_region_cls (Bey w2) (by kernel_rfl) (by kernel_rfl) (bey_drew w2) ?_
          repeat (go_big_quiet_step ((go_at_call 37; exact calls_bey (cA' _))))
          refine wpQuiet_nil ?_
          intro _ hw'
          obtain ⟨sq, hw''⟩ := hw'
          subst hw''
          have hV2 : Hid (Rn w sq.w M h) := hV.out.later sq.h
          obtain ⟨j0, j1, j2, j3, j4⟩ : BoxI sq.w IB ⟨op, a, b, c, nn⟩ := BoxI.later (x := ⟨op, a, b, c, nn⟩) ⟨i0, i1, i2, i3, i4⟩ sq.h
          clear s0 s1 s2 s3 sb sc hne i0 i1 i2 i3 i4 ra rb rc fa cA' hg2 hz2
          have ra2 := hV2.out.gb.reg hl a (by omega) (by omega)
          have fa2 := hV2.out.gb.fz (4 + a.toNat)
          have hg2 := hV2.out.gb
          have hz2 := hV2.out.z
          generalize sq.w = V2 at *
          go_wp2_with (first
            | (refine wpList_puti rfl 2 _ _ rfl ⟨w.heap.size + 1, 4 + a.toNat, none⟩ rfl (x) rfl (by kernel_rfl) _ ra2 fa2 ?_; intro W1 hW1; (have hr1 : Hid (Rn w W1 M (h.set a x)) := by rw [hW1]; exact hV2.out.setR a (x)); (have x2 := hr1.out.gb.c2); (have f2 := hr1.out.gb.fz 2); clear hW1 ra2 fa2)
            | (refine wpList_puti rfl 3 _ _ rfl ⟨w.heap.size + 1, 2, none⟩ rfl (h.pc + 1) (by rw [← pc1 p0 p1]; rfl) (by kernel_rfl) _ x2 f2 ?_; intro W2 hW2; (have hr2 : Hid (Rn w W2 M (h.set a x).adv) := by rw [hW2]; exact hr1.out.setP (h.pc + 1)); clear hW2 x2 f2))
          simp only [Act.put]
          go_roundw
          case rel => exact ⟨k, ((h.set a x).adv), by first | rfl | (rw [hkw]), by omega, hr2.out, hnx.out, hin.out, hh1.out, hh2.out⟩
          case measure => first | (simp [intOf]; done) | (simp [intOf]; omega)
        · have d15 : decide (op ≤ 15) = false := decide_eq_false h15
          have hA := fun wx => (word.apF_two (k := op) (a := h.get b) (b := h.get c) (by omega) ok1.2 (hgb b.toNat) (hgb c.toNat) wx)
          have cA' : ∀ wx, Calls Tryd.prog 37 #[.int .i64 op, .int .i64 (h.get b), .int .i64 (h.get c)] wx fun e w' => e = .returned (.tuple #[.int .i64 (word.apF op (h.get b) (h.get c)).1, .int .i64 (word.apF op (h.get b) (h.get c)).2]) ∧ Below wx.heap.size wx w' := fun wx => ((hA wx).2.1).mono fun e w' ⟨he, hw⟩ => ⟨he, by rw [hw]; exact Below.refl _ _⟩
          clear hA eL
          generalize (word.apF op (h.get b) (h.get c)) = r at *
          obtain ⟨x, y⟩ := r
          simp only at cA' hnx0 hin0
          generalize h.get b = vb at *
          generalize h.get c = vc at *
          clear h40 h41 h42 h43 h44 h45 ok1 h15 ho' ga gb gc hgb
          by_cases y20 : y = 20
          · subst y20
            rw [if_pos rfl] at hnx0
            have hfin : Hid (R = h.end 4 2) := by
              show _ = _
              rw [← hnx0]
              exact runG_stop (fun q => absurd q.1 (by show ¬ ((4 : Int) = 1); decide)) k
            clear hnx0 hin0
            go_wp2_with (go_at_call 36; (with_reducible refine (cLt _).mono ?_); rintro e w2 ⟨rfl, rfl⟩)
            have s0 := fun s => bey_cell i0 s
            have s1 := fun s => bey_cell i1 s
            have s2 := fun s => bey_cell i2 s
            have s3 := fun s => bey_cell i3 s
            have sb := fun s => bey_cell rb s
            have sc := fun s => bey_cell rc s
            have hne := bey_some w2
            refine wp_region_cls (Bey w2) (by kernel_rfl) (by kernel_rfl) (bey_drew w2) ?_
            repeat (go_big_quiet_step ((go_at_call 37; exact calls_bey (cA' _))))
            refine wpQuiet_nil ?_
            intro _ hw'
            obtain ⟨sq, hw''⟩ := hw'
            subst hw''
            have hV2 : Hid (Rn w sq.w M h) := hV.out.later sq.h
            obtain ⟨j0, j1, j2, j3, j4⟩ : BoxI sq.w IB ⟨op, a, b, c, nn⟩ := BoxI.later (x := ⟨op, a, b, c, nn⟩) ⟨i0, i1, i2, i3, i4⟩ sq.h
            clear s0 s1 s2 s3 sb sc hne i0 i1 i2 i3 i4 ra rb rc fa cA' hg2 hz2
            have ra2 := hV2.out.gb.reg hl a (by omega) (by omega)
            have fa2 := hV2.out.gb.fz (4 + a.toNat)
            have hg2 := hV2.out.gb
            have hz2 := hV2.out.z
            generalize sq.w = V2 at *
            clear ra2 fa2
            have cE := rended_any h 4 2
            have hX := end_len h 4 2
            go_wp2_with (first
              | (go_at_call 36; (with_reducible refine (cLt _).mono ?_); rintro e w2 ⟨rfl, rfl⟩)
              | (refine wpList_load_row rfl 35 _ rfl (w.heap.size + 1) rfl _ _ _ _ hg2 Tryd.underlying35 rfl (infoG hl) ?_)
              | (go_at_call 38; (with_reducible refine (cE _).mono ?_); rintro e W2 ⟨rfl, hb3⟩; (have hr2 : Hid (Rn w W2 M h) := hV2.out.later hb3); (have hz2 := hr2.out.z))
              | (refine wpList_store_row rfl 35 _ _ rfl (w.heap.size + 2) (Gr.cells (h.end 4 2)).toArray rfl rfl _ _ hz2 (infoG hX) (sizeGG rfl hX) (oneG _) ?_))
            exact bodyPost_ret (results_g Tryd.results22 _ _ (w.heap.size + 2) (h.end 4 2) hX rfl (hz2.set _)) rfl ⟨by rw [hfin.out], below_setRowG hr2.out.b (by omega) _⟩
          · rw [if_neg y20] at hnx0 hin0
            have e20 : (y == 20) = false := by simpa using y20
            by_cases y21 : y = 21
            · subst y21
              rw [if_pos rfl] at hnx0
              have hfin : Hid (R = h.end 4 3) := by
                show _ = _
                rw [← hnx0]
                exact runG_stop (fun q => absurd q.1 (by show ¬ ((4 : Int) = 1); decide)) k
              clear hnx0 hin0 y20
              go_wp2_with (go_at_call 36; (with_reducible refine (cLt _).mono ?_); rintro e w2 ⟨rfl, rfl⟩)
              have s0 := fun s => bey_cell i0 s
              have s1 := fun s => bey_cell i1 s
              have s2 := fun s => bey_cell i2 s
              have s3 := fun s => bey_cell i3 s
              have sb := fun s => bey_cell rb s
              have sc := fun s => bey_cell rc s
              have hne := bey_some w2
              refine wp_region_cls (Bey w2) (by kernel_rfl) (by kernel_rfl) (bey_drew w2) ?_
              repeat (go_big_quiet_step ((go_at_call 37; exact calls_bey (cA' _))))
              refine wpQuiet_nil ?_
              intro _ hw'
              obtain ⟨sq, hw''⟩ := hw'
              subst hw''
              have hV2 : Hid (Rn w sq.w M h) := hV.out.later sq.h
              obtain ⟨j0, j1, j2, j3, j4⟩ : BoxI sq.w IB ⟨op, a, b, c, nn⟩ := BoxI.later (x := ⟨op, a, b, c, nn⟩) ⟨i0, i1, i2, i3, i4⟩ sq.h
              clear s0 s1 s2 s3 sb sc hne i0 i1 i2 i3 i4 ra rb rc fa cA' hg2 hz2
              have ra2 := hV2.out.gb.reg hl a (by omega) (by omega)
              have fa2 := hV2.out.gb.fz (4 + a.toNat)
              have hg2 := hV2.out.gb
              have hz2 := hV2.out.z
              generalize sq.w = V2 at *
              clear ra2 fa2
              have cE := rended_any h 4 3
              have hX := end_len h 4 3
              go_wp2_with (first
                | (go_at_call 36; (with_reducible refine (cLt _).mono ?_); rintro e w2 ⟨rfl, rfl⟩)
                | (refine wpList_load_row rfl 35 _ rfl (w.heap.size + 1) rfl _ _ _ _ hg2 Tryd.underlying35 rfl (infoG hl) ?_)
                | (go_at_call 38; (with_reducible refine (cE _).mono ?_); rintro e W2 ⟨rfl, hb3⟩; (have hr2 : Hid (Rn w W2 M h) := hV2.out.later hb3); (have hz2 := hr2.out.z))
                | (refine wpList_store_row rfl 35 _ _ rfl (w.heap.size + 2) (Gr.cells (h.end 4 3)).toArray rfl rfl _ _ hz2 (infoG hX) (sizeGG rfl hX) (oneG _) ?_))
              exact bodyPost_ret (results_g Tryd.results22 _ _ (w.heap.size + 2) (h.end 4 3) hX rfl (hz2.set _)) rfl ⟨by rw [hfin.out], below_setRowG hr2.out.b (by omega) _⟩
            · rw [if_neg y21] at hnx0 hin0
              have e21 : (y == 21) = false := by simpa using y21
              have hnx : Hid (runG word.apF lcB F.code k ((h.set a x).adv) = R) := hnx0
              have hin : Hid (GrIn F.code ((h.set a x).adv)) := hin0
              clear hnx0 hin0 y20 y21
              go_wp2_with (go_at_call 36; (with_reducible refine (cLt _).mono ?_); rintro e w2 ⟨rfl, rfl⟩)
              have s0 := fun s => bey_cell i0 s
              have s1 := fun s => bey_cell i1 s
              have s2 := fun s => bey_cell i2 s
              have s3 := fun s => bey_cell i3 s
              have sb := fun s => bey_cell rb s
              have sc := fun s => bey_cell rc s
              have hne := bey_some w2
              refine wp_region_cls (Bey w2) (by kernel_rfl) (by kernel_rfl) (bey_drew w2) ?_
              repeat (go_big_quiet_step ((go_at_call 37; exact calls_bey (cA' _))))
              refine wpQuiet_nil ?_
              intro _ hw'
              obtain ⟨sq, hw''⟩ := hw'
              subst hw''
              have hV2 : Hid (Rn w sq.w M h) := hV.out.later sq.h
              obtain ⟨j0, j1, j2, j3, j4⟩ : BoxI sq.w IB ⟨op, a, b, c, nn⟩ := BoxI.later (x := ⟨op, a, b, c, nn⟩) ⟨i0, i1, i2, i3, i4⟩ sq.h
              clear s0 s1 s2 s3 sb sc hne i0 i1 i2 i3 i4 ra rb rc fa cA' hg2 hz2
              have ra2 := hV2.out.gb.reg hl a (by omega) (by omega)
              have fa2 := hV2.out.gb.fz (4 + a.toNat)
              have hg2 := hV2.out.gb
              have hz2 := hV2.out.z
              generalize sq.w = V2 at *
              go_wp2_with (first
                | (refine wpList_puti rfl 2 _ _ rfl ⟨w.heap.size + 1, 4 + a.toNat, none⟩ rfl (x) rfl (by kernel_rfl) _ ra2 fa2 ?_; intro W1 hW1; (have hr1 : Hid (Rn w W1 M (h.set a x)) := by rw [hW1]; exact hV2.out.setR a (x)); (have x2 := hr1.out.gb.c2); (have f2 := hr1.out.gb.fz 2); clear hW1 ra2 fa2)
                | (refine wpList_puti rfl 3 _ _ rfl ⟨w.heap.size + 1, 2, none⟩ rfl (h.pc + 1) (by rw [← pc1 p0 p1]; rfl) (by kernel_rfl) _ x2 f2 ?_; intro W2 hW2; (have hr2 : Hid (Rn w W2 M (h.set a x).adv) := by rw [hW2]; exact hr1.out.setP (h.pc + 1)); clear hW2 x2 f2))
              simp only [Act.put]
              go_roundw
              case rel => exact ⟨k, ((h.set a x).adv), by first | rfl | (rw [hkw]), by omega, hr2.out, hnx.out, hin.out, hh1.out, hh2.out⟩
              case measure => first | (simp [intOf]; done) | (simp [intOf]; omega)
    · have cLt : ∀ wx, Calls Tryd.prog 36 #[.int .i64 i.op] wx fun e w' => e = .returned (.bool false) ∧ w' = wx := fun wx => by have := cL wx; rw [loc_lcB, show lcB i.op = false from decide_eq_false c2] at this; exact this
      have hfin : Hid (R = h) := by show _ = _; rw [← heH.out]; exact fStop c2 k
      have hr2 : Hid (Rn w V M h) := hV
      clear cL fStop fZero fStep lin gi hgb c2
      go_wp2_with (first
        | (go_at_call 36; (with_reducible refine (cLt _).mono ?_); rintro e w2 ⟨rfl, rfl⟩)
        | (refine wpList_load_row rfl 35 _ rfl (w.heap.size + 1) rfl _ _ _ _ hg2 Tryd.underlying35 rfl (infoG hl) ?_)
        | (refine wpList_store_row rfl 35 _ _ rfl (w.heap.size + 2) (Gr.cells h).toArray rfl rfl _ _ hz2 (infoG hl) (sizeGG rfl hl) (oneG _) ?_))
      exact bodyPost_ret (results_g Tryd.results22 _ _ (w.heap.size + 2) h hl rfl (hz2.set _)) rfl ⟨by rw [hfin.out], below_setRowG hr2.out.b (by omega) _⟩
end Go.Proofs.YtjcmhaaohdmjpaaDoor.pg
/- The contracts of the document's own looks at operands. -/
namespace Go.Proofs.YtjcmhaaohdmjpaaDoor.pg
open Go.ChangeShapes Go.WideShapes Go.ChangeAt Go.RowKit
set_option linter.unusedVariables false
set_option linter.unusedSimpArgs false
set_option maxRecDepth 100000
theorem within_t (x n : Int) (w : World) (h : 0 ≤ x ∧ x < n) : Calls Tryd.prog 59 #[.int .i64 x, .int .i64 n] w fun e w' => e = .returned (.bool true) ∧ w' = w := by
  obtain ⟨h1, h2⟩ := h
  go_enter Tryd.func59, Tryd.ntmps59
  go_wp2
  go_ret
  exact ⟨rfl, rfl⟩
theorem within_f (x n : Int) (w : World) (h : x < 0 ∨ n ≤ x) : Calls Tryd.prog 59 #[.int .i64 x, .int .i64 n] w fun e w' => e = .returned (.bool false) ∧ w' = w := by
  by_cases h1 : 0 ≤ x
  · have h2 : ¬ x < n := by omega
    go_enter Tryd.func59, Tryd.ntmps59
    go_wp2
    go_ret
    exact ⟨rfl, rfl⟩
  · clear h
    go_enter Tryd.func59, Tryd.ntmps59
    go_wp2
    go_ret
    exact ⟨rfl, rfl⟩
section
variable (M : MPr) (f : MFn) (i : Ins) (x : Int) (w : World) (r : Int) (l : Int)
abbrev opR (l : Int) : Int := opndE (roomR (M.pr.par i.b) x f.regs) M.pr f.fn l x
theorem rop_r_t (h : 0 ≤ x ∧ x < f.regs) (hr : Hid (opR M f i x 114 = r)) : Calls Tryd.prog 62 #[M.val, f.val, .int .u8 114, .int .i64 x, i.val] w fun e w' => e = .returned (.int .i64 r) ∧ Below w.heap.size w w' := by
  have hv : Hid (r = 0) := hr.out.symm.trans (by
    have h' : inR x f.fn.regs := h
    simp only [opR, opndE, Int.reduceEq, false_and, false_or, or_false, true_or, or_true, if_false, if_true, if_pos h'])
  go_enter Tryd.func62, Tryd.ntmps62
  go_wp2_with (go_at_call 59; (with_reducible refine (within_t _ _ _ (by omega)).mono ?_); rintro e w' ⟨rfl, rfl⟩)
  go_ret
  exact ⟨ret_i hv.out.symm, boxed3 _ _ _ _⟩
theorem rop_r_f (h : ¬ (0 ≤ x ∧ x < f.regs)) (hr : Hid (opR M f i x 114 = r)) : Calls Tryd.prog 62 #[M.val, f.val, .int .u8 114, .int .i64 x, i.val] w fun e w' => e = .returned (.int .i64 r) ∧ Below w.heap.size w w' := by
  have hv : Hid (r = 35) := hr.out.symm.trans (by
    have h' : ¬ inR x f.fn.regs := h
    simp only [opR, opndE, Int.reduceEq, false_and, false_or, or_false, true_or, or_true, if_false, if_true, if_neg h'])
  go_enter Tryd.func62, Tryd.ntmps62
  go_wp2_with (go_at_call 59; (with_reducible refine (within_f _ _ _ (by omega)).mono ?_); rintro e w' ⟨rfl, rfl⟩)
  go_ret
  exact ⟨ret_i hv.out.symm, boxed3 _ _ _ _⟩
theorem rop_w_t (h : 0 ≤ x ∧ x < f.regs) (hr : Hid (opR M f i x 119 = r)) : Calls Tryd.prog 62 #[M.val, f.val, .int .u8 119, .int .i64 x, i.val] w fun e w' => e = .returned (.int .i64 r) ∧ Below w.heap.size w w' := by
  have hv : Hid (r = 0) := hr.out.symm.trans (by
    have h' : inR x f.fn.regs := h
    simp only [opR, opndE, Int.reduceEq, false_and, false_or, or_false, true_or, or_true, if_false, if_true, if_pos h'])
  go_enter Tryd.func62, Tryd.ntmps62
  go_wp2_with (go_at_call 59; (with_reducible refine (within_t _ _ _ (by omega)).mono ?_); rintro e w' ⟨rfl, rfl⟩)
  go_ret
  exact ⟨ret_i hv.out.symm, boxed3 _ _ _ _⟩
theorem rop_w_f (h : ¬ (0 ≤ x ∧ x < f.regs)) (hr : Hid (opR M f i x 119 = r)) : Calls Tryd.prog 62 #[M.val, f.val, .int .u8 119, .int .i64 x, i.val] w fun e w' => e = .returned (.int .i64 r) ∧ Below w.heap.size w w' := by
  have hv : Hid (r = 35) := hr.out.symm.trans (by
    have h' : ¬ inR x f.fn.regs := h
    simp only [opR, opndE, Int.reduceEq, false_and, false_or, or_false, true_or, or_true, if_false, if_true, if_neg h'])
  go_enter Tryd.func62, Tryd.ntmps62
  go_wp2_with (go_at_call 59; (with_reducible refine (within_f _ _ _ (by omega)).mono ?_); rintro e w' ⟨rfl, rfl⟩)
  go_ret
  exact ⟨ret_i hv.out.symm, boxed3 _ _ _ _⟩
theorem rop_o_t (hx : ¬ x = -1) (h : 0 ≤ x ∧ x < f.regs) (hr : Hid (opR M f i x 111 = r)) : Calls Tryd.prog 62 #[M.val, f.val, .int .u8 111, .int .i64 x, i.val] w fun e w' => e = .returned (.int .i64 r) ∧ Below w.heap.size w w' := by
  have hv : Hid (r = 0) := hr.out.symm.trans (by
    have h' : inR x f.fn.regs := h
    simp only [opR, opndE, hx, and_false, Int.reduceEq, false_and, false_or, or_false, true_or, or_true, if_false, if_true, if_pos h'])
  go_enter Tryd.func62, Tryd.ntmps62
  go_wp2_with (go_at_call 59; (with_reducible refine (within_t _ _ _ (by omega)).mono ?_); rintro e w' ⟨rfl, rfl⟩)
  go_ret
  exact ⟨ret_i hv.out.symm, boxed3 _ _ _ _⟩
theorem rop_o_f (hx : ¬ x = -1) (h : ¬ (0 ≤ x ∧ x < f.regs)) (hr : Hid (opR M f i x 111 = r)) : Calls Tryd.prog 62 #[M.val, f.val, .int .u8 111, .int .i64 x, i.val] w fun e w' => e = .returned (.int .i64 r) ∧ Below w.heap.size w w' := by
  have hv : Hid (r = 35) := hr.out.symm.trans (by
    have h' : ¬ inR x f.fn.regs := h
    simp only [opR, opndE, hx, and_false, Int.reduceEq, false_and, false_or, or_false, true_or, or_true, if_false, if_true, if_neg h'])
  go_enter Tryd.func62, Tryd.ntmps62
  go_wp2_with (go_at_call 59; (with_reducible refine (within_f _ _ _ (by omega)).mono ?_); rintro e w' ⟨rfl, rfl⟩)
  go_ret
  exact ⟨ret_i hv.out.symm, boxed3 _ _ _ _⟩
theorem rop_v_t (h : 0 ≤ x ∧ x < (M.vars.length : Int)) (hr : Hid (opR M f i x 118 = r)) : Calls Tryd.prog 62 #[M.val, f.val, .int .u8 118, .int .i64 x, i.val] w fun e w' => e = .returned (.int .i64 r) ∧ Below w.heap.size w w' := by
  have hv : Hid (r = 0) := hr.out.symm.trans (by
    have h' : inR x M.pr.vars.length := h
    simp only [opR, opndE, Int.reduceEq, false_and, false_or, or_false, true_or, or_true, if_false, if_true, if_pos h'])
  go_enter Tryd.func62, Tryd.ntmps62
  go_wp2_with (go_at_call 59; (with_reducible refine (within_t _ _ _ (by omega)).mono ?_); rintro e w' ⟨rfl, rfl⟩)
  go_ret
  exact ⟨ret_i hv.out.symm, boxed3 _ _ _ _⟩
theorem rop_v_f (h : ¬ (0 ≤ x ∧ x < (M.vars.length : Int))) (hr : Hid (opR M f i x 118 = r)) : Calls Tryd.prog 62 #[M.val, f.val, .int .u8 118, .int .i64 x, i.val] w fun e w' => e = .returned (.int .i64 r) ∧ Below w.heap.size w w' := by
  have hv : Hid (r = 36) := hr.out.symm.trans (by
    have h' : ¬ inR x M.pr.vars.length := h
    simp only [opR, opndE, Int.reduceEq, false_and, false_or, or_false, true_or, or_true, if_false, if_true, if_neg h'])
  go_enter Tryd.func62, Tryd.ntmps62
  go_wp2_with (go_at_call 59; (with_reducible refine (within_f _ _ _ (by omega)).mono ?_); rintro e w' ⟨rfl, rfl⟩)
  go_ret
  exact ⟨ret_i hv.out.symm, boxed3 _ _ _ _⟩
theorem rop_l_t (h : 0 ≤ x ∧ x < M.locks) (hr : Hid (opR M f i x 108 = r)) : Calls Tryd.prog 62 #[M.val, f.val, .int .u8 108, .int .i64 x, i.val] w fun e w' => e = .returned (.int .i64 r) ∧ Below w.heap.size w w' := by
  have hv : Hid (r = 0) := hr.out.symm.trans (by
    have h' : inR x M.pr.locks := h
    simp only [opR, opndE, Int.reduceEq, false_and, false_or, or_false, true_or, or_true, if_false, if_true, if_pos h'])
  go_enter Tryd.func62, Tryd.ntmps62
  go_wp2_with (go_at_call 59; (with_reducible refine (within_t _ _ _ (by omega)).mono ?_); rintro e w' ⟨rfl, rfl⟩)
  go_ret
  exact ⟨ret_i hv.out.symm, boxed3 _ _ _ _⟩
theorem rop_l_f (h : ¬ (0 ≤ x ∧ x < M.locks)) (hr : Hid (opR M f i x 108 = r)) : Calls Tryd.prog 62 #[M.val, f.val, .int .u8 108, .int .i64 x, i.val] w fun e w' => e = .returned (.int .i64 r) ∧ Below w.heap.size w w' := by
  have hv : Hid (r = 36) := hr.out.symm.trans (by
    have h' : ¬ inR x M.pr.locks := h
    simp only [opR, opndE, Int.reduceEq, false_and, false_or, or_false, true_or, or_true, if_false, if_true, if_neg h'])
  go_enter Tryd.func62, Tryd.ntmps62
  go_wp2_with (go_at_call 59; (with_reducible refine (within_f _ _ _ (by omega)).mono ?_); rintro e w' ⟨rfl, rfl⟩)
  go_ret
  exact ⟨ret_i hv.out.symm, boxed3 _ _ _ _⟩
theorem rop_c_t (h : 0 ≤ x ∧ x < (M.chans.length : Int)) (hr : Hid (opR M f i x 99 = r)) : Calls Tryd.prog 62 #[M.val, f.val, .int .u8 99, .int .i64 x, i.val] w fun e w' => e = .returned (.int .i64 r) ∧ Below w.heap.size w w' := by
  have hv : Hid (r = 0) := hr.out.symm.trans (by
    have h' : inR x M.pr.chans.length := h
    simp only [opR, opndE, Int.reduceEq, false_and, false_or, or_false, true_or, or_true, if_false, if_true, if_pos h'])
  go_enter Tryd.func62, Tryd.ntmps62
  go_wp2_with (go_at_call 59; (with_reducible refine (within_t _ _ _ (by omega)).mono ?_); rintro e w' ⟨rfl, rfl⟩)
  go_ret
  exact ⟨ret_i hv.out.symm, boxed3 _ _ _ _⟩
theorem rop_c_f (h : ¬ (0 ≤ x ∧ x < (M.chans.length : Int))) (hr : Hid (opR M f i x 99 = r)) : Calls Tryd.prog 62 #[M.val, f.val, .int .u8 99, .int .i64 x, i.val] w fun e w' => e = .returned (.int .i64 r) ∧ Below w.heap.size w w' := by
  have hv : Hid (r = 36) := hr.out.symm.trans (by
    have h' : ¬ inR x M.pr.chans.length := h
    simp only [opR, opndE, Int.reduceEq, false_and, false_or, or_false, true_or, or_true, if_false, if_true, if_neg h'])
  go_enter Tryd.func62, Tryd.ntmps62
  go_wp2_with (go_at_call 59; (with_reducible refine (within_f _ _ _ (by omega)).mono ?_); rintro e w' ⟨rfl, rfl⟩)
  go_ret
  exact ⟨ret_i hv.out.symm, boxed3 _ _ _ _⟩
theorem rop_s_t (h : 0 ≤ x ∧ x < (f.sels.length : Int)) (hr : Hid (opR M f i x 115 = r)) : Calls Tryd.prog 62 #[M.val, f.val, .int .u8 115, .int .i64 x, i.val] w fun e w' => e = .returned (.int .i64 r) ∧ Below w.heap.size w w' := by
  have hv : Hid (r = 0) := hr.out.symm.trans (by
    have h' : inR x (f.fn.sels.length : Int) := by rw [show (f.fn.sels.length : Int) = f.sels.length from by simp [MFn.fn]]; exact h
    simp only [opR, opndE, Int.reduceEq, false_and, false_or, or_false, true_or, or_true, if_false, if_true, if_pos h'])
  go_enter Tryd.func62, Tryd.ntmps62
  go_wp2_with (go_at_call 59; (with_reducible refine (within_t _ _ _ (by omega)).mono ?_); rintro e w' ⟨rfl, rfl⟩)
  go_ret
  exact ⟨ret_i hv.out.symm, boxed3 _ _ _ _⟩
theorem rop_s_f (h : ¬ (0 ≤ x ∧ x < (f.sels.length : Int))) (hr : Hid (opR M f i x 115 = r)) : Calls Tryd.prog 62 #[M.val, f.val, .int .u8 115, .int .i64 x, i.val] w fun e w' => e = .returned (.int .i64 r) ∧ Below w.heap.size w w' := by
  have hv : Hid (r = 36) := hr.out.symm.trans (by
    have h' : ¬ inR x (f.fn.sels.length : Int) := by rw [show (f.fn.sels.length : Int) = f.sels.length from by simp [MFn.fn]]; exact h
    simp only [opR, opndE, Int.reduceEq, false_and, false_or, or_false, true_or, or_true, if_false, if_true, if_neg h'])
  go_enter Tryd.func62, Tryd.ntmps62
  go_wp2_with (go_at_call 59; (with_reducible refine (within_f _ _ _ (by omega)).mono ?_); rintro e w' ⟨rfl, rfl⟩)
  go_ret
  exact ⟨ret_i hv.out.symm, boxed3 _ _ _ _⟩
theorem rop_f_t (h : 0 ≤ x ∧ x < (M.fns.length : Int)) (hr : Hid (opR M f i x 102 = r)) : Calls Tryd.prog 62 #[M.val, f.val, .int .u8 102, .int .i64 x, i.val] w fun e w' => e = .returned (.int .i64 r) ∧ Below w.heap.size w w' := by
  have hv : Hid (r = 0) := hr.out.symm.trans (by
    have h' : inR x (M.pr.fns.length : Int) := by rw [show (M.pr.fns.length : Int) = M.fns.length from by simp [MPr.pr]]; exact h
    simp only [opR, opndE, Int.reduceEq, false_and, false_or, or_false, true_or, or_true, if_false, if_true, if_pos h'])
  go_enter Tryd.func62, Tryd.ntmps62
  go_wp2_with (go_at_call 59; (with_reducible refine (within_t _ _ _ (by omega)).mono ?_); rintro e w' ⟨rfl, rfl⟩)
  go_ret
  exact ⟨ret_i hv.out.symm, boxed3 _ _ _ _⟩
theorem rop_f_f (h : ¬ (0 ≤ x ∧ x < (M.fns.length : Int))) (hr : Hid (opR M f i x 102 = r)) : Calls Tryd.prog 62 #[M.val, f.val, .int .u8 102, .int .i64 x, i.val] w fun e w' => e = .returned (.int .i64 r) ∧ Below w.heap.size w w' := by
  have hv : Hid (r = 36) := hr.out.symm.trans (by
    have h' : ¬ inR x (M.pr.fns.length : Int) := by rw [show (M.pr.fns.length : Int) = M.fns.length from by simp [MPr.pr]]; exact h
    simp only [opR, opndE, Int.reduceEq, false_and, false_or, or_false, true_or, or_true, if_false, if_true, if_neg h'])
  go_enter Tryd.func62, Tryd.ntmps62
  go_wp2_with (go_at_call 59; (with_reducible refine (within_f _ _ _ (by omega)).mono ?_); rintro e w' ⟨rfl, rfl⟩)
  go_ret
  exact ⟨ret_i hv.out.symm, boxed3 _ _ _ _⟩
theorem rop_t_t (h : 0 ≤ x ∧ x < (f.code.length : Int)) (hr : Hid (opR M f i x 116 = r)) : Calls Tryd.prog 62 #[M.val, f.val, .int .u8 116, .int .i64 x, i.val] w fun e w' => e = .returned (.int .i64 r) ∧ Below w.heap.size w w' := by
  have hv : Hid (r = 0) := hr.out.symm.trans (by
    have h' : inR x f.fn.code.length := h
    simp only [opR, opndE, Int.reduceEq, false_and, false_or, or_false, true_or, or_true, if_false, if_true, if_pos h'])
  go_enter Tryd.func62, Tryd.ntmps62
  go_wp2_with (go_at_call 59; (with_reducible refine (within_t _ _ _ (by omega)).mono ?_); rintro e w' ⟨rfl, rfl⟩)
  go_ret
  exact ⟨ret_i hv.out.symm, boxed3 _ _ _ _⟩
theorem rop_t_f (h : ¬ (0 ≤ x ∧ x < (f.code.length : Int))) (hr : Hid (opR M f i x 116 = r)) : Calls Tryd.prog 62 #[M.val, f.val, .int .u8 116, .int .i64 x, i.val] w fun e w' => e = .returned (.int .i64 r) ∧ Below w.heap.size w w' := by
  have hv : Hid (r = 38) := hr.out.symm.trans (by
    have h' : ¬ inR x f.fn.code.length := h
    simp only [opR, opndE, Int.reduceEq, false_and, false_or, or_false, true_or, or_true, if_false, if_true, if_neg h'])
  go_enter Tryd.func62, Tryd.ntmps62
  go_wp2_with (go_at_call 59; (with_reducible refine (within_f _ _ _ (by omega)).mono ?_); rintro e w' ⟨rfl, rfl⟩)
  go_ret
  exact ⟨ret_i hv.out.symm, boxed3 _ _ _ _⟩
theorem rop_o_none (hx : x = -1) (hr : Hid (opR M f i x 111 = r)) : Calls Tryd.prog 62 #[M.val, f.val, .int .u8 111, .int .i64 x, i.val] w fun e w' => e = .returned (.int .i64 r) ∧ Below w.heap.size w w' := by
  subst hx
  have hv : Hid (r = 0) := hr.out.symm.trans (by simp only [opR, opndE, and_self, if_true])
  go_enter Tryd.func62, Tryd.ntmps62
  go_wp2
  go_ret
  exact ⟨ret_i hv.out.symm, boxed3 _ _ _ _⟩
theorem rop_a_t (k : Nat) (y : Vr) (hk : x = (k : Int)) (hy : M.vars[k]? = some y) (hl : M.lies w) (hr : Hid (opR M f i x 97 = r)) : Calls Tryd.prog 62 #[M.val, f.val, .int .u8 97, .int .i64 x, i.val] w fun e w' => e = .returned (.int .i64 r) ∧ Below w.heap.size w w' := by
  have hlt : k < M.vars.length := (List.getElem?_eq_some_iff.mp hy).1
  have h : 0 ≤ x ∧ x < (M.vars.length : Int) := by omega
  obtain ⟨b, o, hix, hbl, c0, c1⟩ := vr_ix hl.1 k y hy
  rw [← hk] at hix
  replace c0 := cell3 c0
  have ha : M.pr.atom x = y.atomic := by rw [hk]; simp [Pr.atom, MPr.pr, hy]
  have hE : opR M f i x 97 = if y.atomic = true then 0 else 37 := by
    have h' : inR x M.pr.vars.length := h
    simp only [opR, opndE, Int.reduceEq, false_and, false_or, or_false, true_or, or_true, if_false, if_true, if_pos h', ha]
  cases hat : y.atomic with
  | true =>
    have hv : Hid (r = 0) := hr.out.symm.trans (by rw [hE, if_pos hat])
    clear ha hE hl hy hk c1 hr
    rw [hat] at c0
    go_enter Tryd.func62, Tryd.ntmps62
    go_wp2_with (go_at_call 59; (with_reducible refine (within_t _ _ _ (by omega)).mono ?_); rintro e w' ⟨rfl, rfl⟩)
    go_ret
    exact ⟨ret_i hv.out.symm, boxed3 _ _ _ _⟩
  | false =>
    have hv : Hid (r = 37) := hr.out.symm.trans (by rw [hE, if_neg (by simp [hat])])
    clear ha hE hl hy hk c1 hr
    rw [hat] at c0
    go_enter Tryd.func62, Tryd.ntmps62
    go_wp2_with (go_at_call 59; (with_reducible refine (within_t _ _ _ (by omega)).mono ?_); rintro e w' ⟨rfl, rfl⟩)
    go_ret
    exact ⟨ret_i hv.out.symm, boxed3 _ _ _ _⟩
theorem rop_a_f (h : ¬ (0 ≤ x ∧ x < (M.vars.length : Int))) (hr : Hid (opR M f i x 97 = r)) : Calls Tryd.prog 62 #[M.val, f.val, .int .u8 97, .int .i64 x, i.val] w fun e w' => e = .returned (.int .i64 r) ∧ Below w.heap.size w w' := by
  have hv : Hid (r = 36) := hr.out.symm.trans (by
    have h' : ¬ inR x M.pr.vars.length := h
    simp only [opR, opndE, Int.reduceEq, false_and, false_or, or_false, true_or, or_true, if_false, if_true, if_neg h'])
  go_enter Tryd.func62, Tryd.ntmps62
  go_wp2_with (go_at_call 59; (with_reducible refine (within_f _ _ _ (by omega)).mono ?_); rintro e w' ⟨rfl, rfl⟩)
  go_ret
  exact ⟨ret_i hv.out.symm, boxed3 _ _ _ _⟩
theorem rop_else (h1 : ¬ l = 111) (h2 : ¬ l = 114) (h3 : ¬ l = 119) (h4 : ¬ l = 112) (h5 : ¬ l = 97) (h6 : ¬ l = 118) (h7 : ¬ l = 108) (h8 : ¬ l = 99) (h9 : ¬ l = 115) (h10 : ¬ l = 102) (h11 : ¬ l = 116) (hr : Hid (opR M f i x l = r)) : Calls Tryd.prog 62 #[M.val, f.val, .int .u8 l, .int .i64 x, i.val] w fun e w' => e = .returned (.int .i64 r) ∧ Below w.heap.size w w' := by
  have hv : Hid (r = 0) := hr.out.symm.trans (by simp only [opR, opndE, h1, h2, h3, h4, h5, h6, h7, h8, h9, h10, h11, false_and, or_self, if_false])
  go_enter Tryd.func62, Tryd.ntmps62
  go_wp2
  go_ret
  exact ⟨ret_i hv.out.symm, boxed3 _ _ _ _⟩
theorem rop_p (k : Nat) (y : MFn) (hk : i.b = (k : Int)) (hy : M.fns[k]? = some y) (hl : M.lies w) (hx : I64 x) (h0 : 0 ≤ f.regs) (h8 : f.regs ≤ 8) (hr : Hid (opR M f i x 112 = r)) : Calls Tryd.prog 62 #[M.val, f.val, .int .u8 112, .int .i64 x, i.val] w fun e w' => e = .returned (.int .i64 r) ∧ Below w.heap.size w w' := by
  have hlt : k < M.fns.length := (List.getElem?_eq_some_iff.mp hy).1
  have hp : M.pr.par i.b = y.params := by rw [hk]; simp [Pr.par, MPr.pr, MFn.fn, hy]
  obtain ⟨b, o, hix, hbl, c0, c1, c2, c3⟩ := fn_ix hl.2.2.1 k y hy
  rw [← hk] at hix
  replace c0 := cell3 c0
  obtain ⟨y1, y2⟩ : I64 y.params := (hl.2.2.2.2.2.2 y (List.mem_of_getElem? hy)).2.2.2.2.1
  have hv : Hid (r = if roomR y.params x f.regs then 0 else 35) := hr.out.symm.trans (by
    simp only [opR, opndE, Int.reduceEq, false_and, false_or, or_false, true_or, or_true, if_false, if_true, hp])
  clear hl hy hp hr c1 c2 c3
  have hbI : 0 ≤ i.b ∧ i.b < (M.fns.length : Int) := by omega
  clear hk hlt
  obtain ⟨x1, x2⟩ := hx
  generalize y.params = k at *
  by_cases hz : k = 0
  · subst hz
    by_cases hx0 : x = 0
    · have hv2 : Hid (r = 0) := hv.out.trans (if_pos (by rintro (q | q) <;> omega))
      go_enter Tryd.func62, Tryd.ntmps62
      go_wp2
      go_ret
      exact ⟨ret_i hv2.out.symm, boxed3 _ _ _ _⟩
    · have hv2 : Hid (r = 35) := hv.out.trans (if_neg (fun q => q (.inl ⟨rfl, hx0⟩)))
      go_enter Tryd.func62, Tryd.ntmps62
      go_wp2
      go_ret
      exact ⟨ret_i hv2.out.symm, boxed3 _ _ _ _⟩
  · by_cases hp : 0 < k
    · by_cases hx0 : x < 0
      · have hv2 : Hid (r = 35) := hv.out.trans (if_neg (fun q => q (.inr ⟨hp, .inl hx0⟩)))
        go_enter Tryd.func62, Tryd.ntmps62
        go_wp2
        go_ret
        exact ⟨ret_i hv2.out.symm, boxed3 _ _ _ _⟩
      · by_cases hx1 : f.regs - k < x
        · have hv2 : Hid (r = 35) := hv.out.trans (if_neg (fun q => q (.inr ⟨hp, .inr hx1⟩)))
          go_enter Tryd.func62, Tryd.ntmps62
          go_wp2
          go_ret
          exact ⟨ret_i hv2.out.symm, boxed3 _ _ _ _⟩
        · have hv2 : Hid (r = 0) := hv.out.trans (if_pos (by rintro (q | q) <;> omega))
          go_enter Tryd.func62, Tryd.ntmps62
          go_wp2
          go_ret
          exact ⟨ret_i hv2.out.symm, boxed3 _ _ _ _⟩
    · have hv2 : Hid (r = 0) := hv.out.trans (if_pos (by rintro (q | q) <;> omega))
      go_enter Tryd.func62, Tryd.ntmps62
      go_wp2
      go_ret
      exact ⟨ret_i hv2.out.symm, boxed3 _ _ _ _⟩
/-- Every operand, whatever its letter. -/
theorem roperand_any (hl : M.lies w) (hx64 : I64 x) (h0 : 0 ≤ f.regs) (h8 : f.regs ≤ 8) (hp : l = 112 → 0 ≤ i.b ∧ i.b < (M.fns.length : Int)) (hr : Hid (opR M f i x l = r)) :
    Calls Tryd.prog 62 #[M.val, f.val, .int .u8 l, .int .i64 x, i.val] w fun e w' => e = .returned (.int .i64 r) ∧ Below w.heap.size w w' := by
  by_cases l1 : l = 111
  · subst l1
    by_cases hx : x = -1
    · exact rop_o_none M f i x w r hx hr
    by_cases h : 0 ≤ x ∧ x < f.regs
    · exact rop_o_t M f i x w r hx h hr
    · exact rop_o_f M f i x w r hx h hr
  by_cases l2 : l = 114
  · subst l2
    by_cases h : 0 ≤ x ∧ x < f.regs
    · exact rop_r_t M f i x w r h hr
    · exact rop_r_f M f i x w r h hr
  by_cases l3 : l = 119
  · subst l3
    by_cases h : 0 ≤ x ∧ x < f.regs
    · exact rop_w_t M f i x w r h hr
    · exact rop_w_f M f i x w r h hr
  by_cases l4 : l = 112
  · subst l4
    have hb := hp rfl
    obtain ⟨y, hy, _⟩ := get_lt M.fns i.b.toNat (by omega)
    exact rop_p M f i x w r i.b.toNat y (by omega) hy hl hx64 h0 h8 hr
  by_cases l5 : l = 97
  · subst l5
    by_cases h : 0 ≤ x ∧ x < (M.vars.length : Int)
    · obtain ⟨y, hy, _⟩ := get_lt M.vars x.toNat (by omega)
      exact rop_a_t M f i x w r x.toNat y (by omega) hy hl hr
    · exact rop_a_f M f i x w r h hr
  by_cases l6 : l = 118
  · subst l6
    by_cases h : 0 ≤ x ∧ x < (M.vars.length : Int)
    · exact rop_v_t M f i x w r h hr
    · exact rop_v_f M f i x w r h hr
  by_cases l7 : l = 108
  · subst l7
    by_cases h : 0 ≤ x ∧ x < M.locks
    · exact rop_l_t M f i x w r h hr
    · exact rop_l_f M f i x w r h hr
  by_cases l8 : l = 99
  · subst l8
    by_cases h : 0 ≤ x ∧ x < (M.chans.length : Int)
    · exact rop_c_t M f i x w r h hr
    · exact rop_c_f M f i x w r h hr
  by_cases l9 : l = 115
  · subst l9
    by_cases h : 0 ≤ x ∧ x < (f.sels.length : Int)
    · exact rop_s_t M f i x w r h hr
    · exact rop_s_f M f i x w r h hr
  by_cases l10 : l = 102
  · subst l10
    by_cases h : 0 ≤ x ∧ x < (M.fns.length : Int)
    · exact rop_f_t M f i x w r h hr
    · exact rop_f_f M f i x w r h hr
  by_cases l11 : l = 116
  · subst l11
    by_cases h : 0 ≤ x ∧ x < (f.code.length : Int)
    · exact rop_t_t M f i x w r h hr
    · exact rop_t_f M f i x w r h hr
  exact rop_else M f i x w r l l1 l2 l3 l4 l5 l6 l7 l8 l9 l10 l11 hr
end
end Go.Proofs.YtjcmhaaohdmjpaaDoor.pg
/- The contract of the document's own look at an instruction. -/
namespace Go.Proofs.YtjcmhaaohdmjpaaDoor.pg
open Go.ChangeShapes Go.WideShapes Go.ChangeAt Go.RowKit
set_option linter.unusedVariables false
set_option linter.unusedSimpArgs false
set_option maxRecDepth 100000
attribute [local go_sem ↓] Go.wp_at_zero Go.wp_at_succ
theorem known_lv (op : Int) : (prog.loc op || prog.vis op) = true ↔ formOf op ≠ [] := by
  by_cases h : 0 ≤ op ∧ op < 66
  · obtain ⟨n, rfl⟩ : ∃ n : Nat, op = (n : Int) := ⟨op.toNat, by omega⟩
    have key : ∀ n : Fin 66, (prog.loc ((n.val : Nat) : Int) || prog.vis ((n.val : Nat) : Int)) = true ↔ formOf ((n.val : Nat) : Int) ≠ [] := by decide
    exact key ⟨n, by omega⟩
  · rw [formOf_big op h]
    constructor
    · intro q
      simp only [prog.loc, prog.vis, Bool.or_eq_true, decide_eq_true_eq] at q
      omega
    · intro q
      exact absurd rfl q
theorem opndE_irrel {r r' : Prop} [Decidable r] [Decidable r'] {P : Pr} {f : Fn} {l x : Int} (h : l ≠ 112) : opndE r P f l x = opndE r' P f l x := by
  unfold opndE
  simp only [h, if_false]
abbrev objX (i : Ins) : Obj := .cells #[.int .i64 i.a, .int .i64 i.b, .int .i64 i.c, .int .i64 i.n] 30
theorem boxX_new (w : World) (x : Ins) : BoxX (w.alloc (objX x)) w.heap.size x := by
  refine ⟨?_, ?_, ?_, ?_⟩ <;> exact World.cell?_alloc_at _ _ _ _ rfl
set_option maxHeartbeats 4000000 in
theorem rinstr_any (M : MPr) (f : MFn) (i : Ins) (w : World) (r : Int) (hl : M.lies w) (hw : i.wf) (h0 : 0 ≤ f.regs) (h8 : f.regs ≤ 8) (hr : Hid (insR M.pr f.fn i = r)) :
    Calls Tryd.prog 48 #[M.val, f.val, i.val] w fun e w' => e = .returned (.int .i64 r) ∧ Below w.heap.size w w' := by
  have hb1 := boxed w (objP M)
  have hb2 := boxed (w.alloc (objP M)) (objF f)
  have hb3 := boxed ((w.alloc (objP M)).alloc (objF f)) (objI i)
  have hb := boxed3 w (objP M) (objF f) (objI i)
  have hb4 := boxed (((w.alloc (objP M)).alloc (objF f)).alloc (objI i)) (objX i)
  have bP := (((boxP_new w M).later hb2).later hb3).later hb4
  have bF := ((boxF_new (w.alloc (objP M)) f).later hb3).later hb4
  have bI := (boxI_new ((w.alloc (objP M)).alloc (objF f)) i).later hb4
  have bX := boxX_new (((w.alloc (objP M)).alloc (objF f)).alloc (objI i)) i
  have hbW := bthen hb hb4
  have hL := hl.later hbW
  simp only [World.size_alloc] at bF bI bX
  clear hb1 hb2 hb3 hb4 hl
  have hop : I64 i.op := hw.1
  obtain ⟨o1, o2⟩ := hop
  obtain ⟨F, hFm⟩ : ∃ F, Hid (prog.frm i.op = F) := ⟨_, rfl⟩
  obtain ⟨bl, hbl⟩ : ∃ bl, Hid (prog.loc i.op = bl) := ⟨_, rfl⟩
  obtain ⟨bv, hbv⟩ : ∃ bv, Hid (prog.vis i.op = bv) := ⟨_, rfl⟩
  have cL : ∀ wx, Calls Tryd.prog 36 #[.int .i64 i.op] wx _ := fun wx => prog.reflocal_any i.op o1 o2 wx bl hbl.out
  have cV : ∀ wx, Calls Tryd.prog 60 #[.int .i64 i.op] wx _ := fun wx => prog.refvisible_any i.op o1 o2 wx bv hbv.out
  have cF : ∀ wx, Calls Tryd.prog 61 #[.int .i64 i.op] wx _ := fun wx => prog.refform_any i.op o1 o2 wx F hFm.out
  have hkn : Hid ((bl || bv) = true ↔ formOf i.op ≠ []) := by rw [← hbl.out, ← hbv.out]; exact known_lv i.op
  by_cases hk : (bl || bv) = true
  · have hne := hkn.out.mp hk
    rcases formOf_four i.op with hn | ⟨a0, a1, a2, a3, hf4, q0, q1, q2, q3⟩
    · exact absurd hn hne
    have hFF := hFm.out
    rw [frm_form, hf4] at hFF
    simp only [List.map] at hFF
    have L0 : Hid (lt i.op 0 = (a0 : Int)) := by show lt i.op 0 = _; unfold lt; rw [hf4]; rfl
    have L1 : Hid (lt i.op 1 = (a1 : Int)) := by show lt i.op 1 = _; unfold lt; rw [hf4]; rfl
    have L2 : Hid (lt i.op 2 = (a2 : Int)) := by show lt i.op 2 = _; unfold lt; rw [hf4]; rfl
    have L3 : Hid (lt i.op 3 = (a3 : Int)) := by show lt i.op 3 = _; unfold lt; rw [hf4]; rfl
    have B0 := byte_str a0 q0
    have B1 := byte_str a1 q1
    have B2 := byte_str a2 q2
    have B3 := byte_str a3 q3
    generalize UInt8.ofNat ((a0 : Int).toNat) = c0 at *
    generalize UInt8.ofNat ((a1 : Int).toNat) = c1 at *
    generalize UInt8.ofNat ((a2 : Int).toNat) = c2 at *
    generalize UInt8.ofNat ((a3 : Int).toNat) = c3 at *
    have C0 : ((⟨#[c0, c1, c2, c3]⟩ : ByteArray)[0]'(by show 0 < 4; decide)).toNat = a0 := by show c0.toNat = a0; omega
    have C1 : ((⟨#[c0, c1, c2, c3]⟩ : ByteArray)[1]'(by show 1 < 4; decide)).toNat = a1 := by show c1.toNat = a1; omega
    have C2 : ((⟨#[c0, c1, c2, c3]⟩ : ByteArray)[2]'(by show 2 < 4; decide)).toNat = a2 := by show c2.toNat = a2; omega
    have C3 : ((⟨#[c0, c1, c2, c3]⟩ : ByteArray)[3]'(by show 3 < 4; decide)).toNat = a3 := by show c3.toNat = a3; omega
    clear B0 B1 B2 B3 q0 q1 q2 q3
    have hne : Hid (formOf i.op ≠ []) := hne
    subst hFF
    clear hFm hf4 hkn hbl hbv
    go_enter Tryd.func48, Tryd.ntmps48
    cases bl
    all_goals
      first | (have hvt : bv = true := by simpa using hk) | skip
      first | subst hvt | skip
      clear hk
      go_wp2_with (first | (go_at_call 36; (with_reducible refine (cL _).mono ?_); rintro e w' ⟨rfl, rfl⟩) | (go_at_call 60; (with_reducible refine (cV _).mono ?_); rintro e w' ⟨rfl, rfl⟩) | (go_at_call 61; (with_reducible refine (cF _).mono ?_); rintro e w' ⟨rfl, rfl⟩))
      generalize (((w.alloc (objP M)).alloc (objF f)).alloc (objI i)).alloc (objX i) = wc at *
      have hbw : Below w.heap.size w wc := hbW
      have hbX0 : Hid (BoxX wc (w.heap.size + 1 + 1 + 1) i) := bX
      have hbP0 : Hid (BoxP wc w.heap.size M) := bP
      have hbF0 : Hid (BoxF wc (w.heap.size + 1) f) := bF
      have hbI0 : Hid (BoxI wc (w.heap.size + 1 + 1) i) := bI
      have hLc : Hid (M.lies wc) := hL
      obtain ⟨x0, x1, x2, x3⟩ := bX
      clear bP bF bI hL hbW hb cL cV cF
      go_loop [9] (fun u => ∃ k : Nat, k ≤ 4 ∧ u = .int .i64 k ∧ ∀ j, j < k → ¬ (lt i.op j = 45 ∧ i.x j ≠ 0)) (fun u => 4 - (intOf u).toNat)
      case atStart => exact ⟨0, Nat.zero_le _, rfl, fun j hj => by omega⟩
      case round =>
        obtain ⟨k, hk, rfl, hall⟩ := hrel
        by_cases hk4 : k = 4
        · subst hk4
          have hun : Hid (¬ unused i) := fun q => by obtain ⟨j, hj, q⟩ := (unused_iff i).mp q; exact hall j hj q
          clear hall x0 x1 x2 x3
          go_wp2
          go_loopw [10] (fun u wr => ∃ k : Nat, k ≤ 4 ∧ u = .int .i64 k ∧ (∀ j, j < k → opndE (roomR (M.pr.par i.b) i.c f.fn.regs) M.pr f.fn (lt i.op j) (i.x j) = 0) ∧ Below wc.heap.size wc wr) (fun u _ => 4 - (intOf u).toNat)
          case atStart => exact ⟨0, Nat.zero_le _, rfl, (fun j hj => by omega), Below.refl _ _⟩
          case round =>
            obtain ⟨k, hk, rfl, hall, hbr⟩ := hrel
            have hbX : Hid (BoxX wr (w.heap.size + 1 + 1 + 1) i) := hbX0.out.later hbr
            have hbP : Hid (BoxP wr w.heap.size M) := hbP0.out.later hbr
            have hbF : Hid (BoxF wr (w.heap.size + 1) f) := hbF0.out.later hbr
            have hbI' : Hid (BoxI wr (w.heap.size + 1 + 1) i) := hbI0.out.later hbr
            have hLr : M.lies wr := hLc.out.later hbr
            by_cases hk4 : k = 4
            · subst hk4
              have hv : Hid (r = 0) := hr.out.symm.trans (insE_ok hne.out hun.out hall)
              go_wp2
              go_ret
              exact ⟨ret_i hv.out.symm, bthen hbw hbr⟩
            have hk0 : k = 0 ∨ k = 1 ∨ k = 2 ∨ k = 3 := by omega
            rcases hk0 with hk0 | hk1 | hk2 | hk3
            · subst hk0
              obtain ⟨e, he⟩ : ∃ e, Hid (opR M f i i.a (a0 : Int) = e) := ⟨_, rfl⟩
              have he' : Hid (opndE (roomR (M.pr.par i.b) i.c f.fn.regs) M.pr f.fn (lt i.op 0) (i.x 0) = e) := by
                show opndE (roomR (M.pr.par i.b) i.c f.regs) M.pr f.fn (lt i.op 0) i.a = e
                rw [opndE_irrel (r' := roomR (M.pr.par i.b) i.a f.regs) (fun q => by have := (p_where i.op 0 q).1; omega), L0.out]; exact he.out
              have hp : (a0 : Int) = 112 → 0 ≤ i.b ∧ i.b < (M.fns.length : Int) := fun h => by have := p_room 0 hall (L0.out.trans h); simpa [MPr.pr] using this
              have hcall : ∀ wx, Below wr.heap.size wr wx → Calls Tryd.prog 62 #[M.val, f.val, .int .u8 (a0 : Int), .int .i64 i.a, i.val] wx _ := fun wx hx => roperand_any M f i i.a wx e (a0 : Int) (hLr.later hx) hw.2.1 h0 h8 hp he
              clear he hp hLr
              obtain ⟨p0, p1, p2, p3, f0, f1, f2, f3, i0, i1, i2, i3, i4, x0, x1, x2, x3, _⟩ := keepA hbP.out hbF.out hbI'.out hbX.out (Below.refl _ wr)
              go_wp2_with fail
              go_region_held3 (fun w' => w'.cell? ⟨w.heap.size, 0, none⟩ = some (.slice M.va M.vars.length M.vcap) ∧ w'.cell? ⟨w.heap.size, 1, none⟩ = some (.int .i64 M.locks) ∧ w'.cell? ⟨w.heap.size, 2, none⟩ = some (.slice M.cha M.chans.length M.chcap) ∧ w'.cell? ⟨w.heap.size, 3, none⟩ = some (.slice M.fa M.fns.length M.fcap) ∧ w'.cell? ⟨w.heap.size + 1, 0, none⟩ = some (.int .i64 f.params) ∧ w'.cell? ⟨w.heap.size + 1, 1, none⟩ = some (.int .i64 f.regs) ∧ w'.cell? ⟨w.heap.size + 1, 2, none⟩ = some (.slice f.ca f.code.length f.ccap) ∧ w'.cell? ⟨w.heap.size + 1, 3, none⟩ = some (.slice f.sa f.sels.length f.scap) ∧ w'.cell? ⟨w.heap.size + 1 + 1, 0, none⟩ = some (.int .i64 i.op) ∧ w'.cell? ⟨w.heap.size + 1 + 1, 1, none⟩ = some (.int .i64 i.a) ∧ w'.cell? ⟨w.heap.size + 1 + 1, 2, none⟩ = some (.int .i64 i.b) ∧ w'.cell? ⟨w.heap.size + 1 + 1, 3, none⟩ = some (.int .i64 i.c) ∧ w'.cell? ⟨w.heap.size + 1 + 1, 4, none⟩ = some (.int .i64 i.n) ∧ w'.cell? ⟨w.heap.size + 1 + 1 + 1, 0, none⟩ = some (.int .i64 i.a) ∧ w'.cell? ⟨w.heap.size + 1 + 1 + 1, 1, none⟩ = some (.int .i64 i.b) ∧ w'.cell? ⟨w.heap.size + 1 + 1 + 1, 2, none⟩ = some (.int .i64 i.c) ∧ w'.cell? ⟨w.heap.size + 1 + 1 + 1, 3, none⟩ = some (.int .i64 i.n) ∧ Below wr.heap.size wr w') ((refine keepA hbP.out hbF.out hbI'.out hbX.out ?_; repeat (first | exact keepL (by assumption) | assumption | exact Below.refl _ _ | refine Below.drew ?_)))
                (first | (go_at_call 62; refine (hcall _ (by repeat (first | exact keepL (by assumption) | exact Below.refl _ _ | refine Below.drew ?_))).mono ?_; rintro e w' ⟨rfl, hb2⟩; have hBW : Below wr.heap.size wr w' := bthen (by repeat (first | exact keepL (by assumption) | exact Below.refl _ _ | refine Below.drew ?_)) hb2))
              by_cases h00 : e = 0
              · subst h00
                go_wp2
                go_roundw
                case rel => exact ⟨1, by omega, rfl, (fun j hj => by
                  by_cases hj' : j = 0
                  · subst hj'; exact he'.out
                  · exact hall j (by omega)), bthen hbr hBW⟩
                case measure => simp [intOf]
              · have hv : Hid (r = e) := hr.out.symm.trans ((insE_hit hne.out hun.out 0 (by omega) hall (fun q => h00 (he'.out.symm.trans q))).trans he'.out)
                go_wp2
                go_ret
                exact ⟨ret_i hv.out.symm, bthen (bthen hbw hbr) hBW⟩
            · subst hk1
              obtain ⟨e, he⟩ : ∃ e, Hid (opR M f i i.b (a1 : Int) = e) := ⟨_, rfl⟩
              have he' : Hid (opndE (roomR (M.pr.par i.b) i.c f.fn.regs) M.pr f.fn (lt i.op 1) (i.x 1) = e) := by
                show opndE (roomR (M.pr.par i.b) i.c f.regs) M.pr f.fn (lt i.op 1) i.b = e
                rw [opndE_irrel (r' := roomR (M.pr.par i.b) i.b f.regs) (fun q => by have := (p_where i.op 1 q).1; omega), L1.out]; exact he.out
              have hp : (a1 : Int) = 112 → 0 ≤ i.b ∧ i.b < (M.fns.length : Int) := fun h => by have := p_room 1 hall (L1.out.trans h); simpa [MPr.pr] using this
              have hcall : ∀ wx, Below wr.heap.size wr wx → Calls Tryd.prog 62 #[M.val, f.val, .int .u8 (a1 : Int), .int .i64 i.b, i.val] wx _ := fun wx hx => roperand_any M f i i.b wx e (a1 : Int) (hLr.later hx) hw.2.2.1 h0 h8 hp he
              clear he hp hLr
              obtain ⟨p0, p1, p2, p3, f0, f1, f2, f3, i0, i1, i2, i3, i4, x0, x1, x2, x3, _⟩ := keepA hbP.out hbF.out hbI'.out hbX.out (Below.refl _ wr)
              go_wp2_with fail
              go_region_held3 (fun w' => w'.cell? ⟨w.heap.size, 0, none⟩ = some (.slice M.va M.vars.length M.vcap) ∧ w'.cell? ⟨w.heap.size, 1, none⟩ = some (.int .i64 M.locks) ∧ w'.cell? ⟨w.heap.size, 2, none⟩ = some (.slice M.cha M.chans.length M.chcap) ∧ w'.cell? ⟨w.heap.size, 3, none⟩ = some (.slice M.fa M.fns.length M.fcap) ∧ w'.cell? ⟨w.heap.size + 1, 0, none⟩ = some (.int .i64 f.params) ∧ w'.cell? ⟨w.heap.size + 1, 1, none⟩ = some (.int .i64 f.regs) ∧ w'.cell? ⟨w.heap.size + 1, 2, none⟩ = some (.slice f.ca f.code.length f.ccap) ∧ w'.cell? ⟨w.heap.size + 1, 3, none⟩ = some (.slice f.sa f.sels.length f.scap) ∧ w'.cell? ⟨w.heap.size + 1 + 1, 0, none⟩ = some (.int .i64 i.op) ∧ w'.cell? ⟨w.heap.size + 1 + 1, 1, none⟩ = some (.int .i64 i.a) ∧ w'.cell? ⟨w.heap.size + 1 + 1, 2, none⟩ = some (.int .i64 i.b) ∧ w'.cell? ⟨w.heap.size + 1 + 1, 3, none⟩ = some (.int .i64 i.c) ∧ w'.cell? ⟨w.heap.size + 1 + 1, 4, none⟩ = some (.int .i64 i.n) ∧ w'.cell? ⟨w.heap.size + 1 + 1 + 1, 0, none⟩ = some (.int .i64 i.a) ∧ w'.cell? ⟨w.heap.size + 1 + 1 + 1, 1, none⟩ = some (.int .i64 i.b) ∧ w'.cell? ⟨w.heap.size + 1 + 1 + 1, 2, none⟩ = some (.int .i64 i.c) ∧ w'.cell? ⟨w.heap.size + 1 + 1 + 1, 3, none⟩ = some (.int .i64 i.n) ∧ Below wr.heap.size wr w') ((refine keepA hbP.out hbF.out hbI'.out hbX.out ?_; repeat (first | exact keepL (by assumption) | assumption | exact Below.refl _ _ | refine Below.drew ?_)))
                (first | (go_at_call 62; refine (hcall _ (by repeat (first | exact keepL (by assumption) | exact Below.refl _ _ | refine Below.drew ?_))).mono ?_; rintro e w' ⟨rfl, hb2⟩; have hBW : Below wr.heap.size wr w' := bthen (by repeat (first | exact keepL (by assumption) | exact Below.refl _ _ | refine Below.drew ?_)) hb2))
              by_cases h00 : e = 0
              · subst h00
                go_wp2
                go_roundw
                case rel => exact ⟨2, by omega, rfl, (fun j hj => by
                  by_cases hj' : j = 1
                  · subst hj'; exact he'.out
                  · exact hall j (by omega)), bthen hbr hBW⟩
                case measure => simp [intOf]
              · have hv : Hid (r = e) := hr.out.symm.trans ((insE_hit hne.out hun.out 1 (by omega) hall (fun q => h00 (he'.out.symm.trans q))).trans he'.out)
                go_wp2
                go_ret
                exact ⟨ret_i hv.out.symm, bthen (bthen hbw hbr) hBW⟩
            · subst hk2
              obtain ⟨e, he⟩ : ∃ e, Hid (opR M f i i.c (a2 : Int) = e) := ⟨_, rfl⟩
              have he' : Hid (opndE (roomR (M.pr.par i.b) i.c f.fn.regs) M.pr f.fn (lt i.op 2) (i.x 2) = e) := by
                show opndE (roomR (M.pr.par i.b) i.c f.regs) M.pr f.fn (lt i.op 2) i.c = e
                rw [L2.out]; exact he.out
              have hp : (a2 : Int) = 112 → 0 ≤ i.b ∧ i.b < (M.fns.length : Int) := fun h => by have := p_room 2 hall (L2.out.trans h); simpa [MPr.pr] using this
              have hcall : ∀ wx, Below wr.heap.size wr wx → Calls Tryd.prog 62 #[M.val, f.val, .int .u8 (a2 : Int), .int .i64 i.c, i.val] wx _ := fun wx hx => roperand_any M f i i.c wx e (a2 : Int) (hLr.later hx) hw.2.2.2.1 h0 h8 hp he
              clear he hp hLr
              obtain ⟨p0, p1, p2, p3, f0, f1, f2, f3, i0, i1, i2, i3, i4, x0, x1, x2, x3, _⟩ := keepA hbP.out hbF.out hbI'.out hbX.out (Below.refl _ wr)
              go_wp2_with fail
              go_region_held3 (fun w' => w'.cell? ⟨w.heap.size, 0, none⟩ = some (.slice M.va M.vars.length M.vcap) ∧ w'.cell? ⟨w.heap.size, 1, none⟩ = some (.int .i64 M.locks) ∧ w'.cell? ⟨w.heap.size, 2, none⟩ = some (.slice M.cha M.chans.length M.chcap) ∧ w'.cell? ⟨w.heap.size, 3, none⟩ = some (.slice M.fa M.fns.length M.fcap) ∧ w'.cell? ⟨w.heap.size + 1, 0, none⟩ = some (.int .i64 f.params) ∧ w'.cell? ⟨w.heap.size + 1, 1, none⟩ = some (.int .i64 f.regs) ∧ w'.cell? ⟨w.heap.size + 1, 2, none⟩ = some (.slice f.ca f.code.length f.ccap) ∧ w'.cell? ⟨w.heap.size + 1, 3, none⟩ = some (.slice f.sa f.sels.length f.scap) ∧ w'.cell? ⟨w.heap.size + 1 + 1, 0, none⟩ = some (.int .i64 i.op) ∧ w'.cell? ⟨w.heap.size + 1 + 1, 1, none⟩ = some (.int .i64 i.a) ∧ w'.cell? ⟨w.heap.size + 1 + 1, 2, none⟩ = some (.int .i64 i.b) ∧ w'.cell? ⟨w.heap.size + 1 + 1, 3, none⟩ = some (.int .i64 i.c) ∧ w'.cell? ⟨w.heap.size + 1 + 1, 4, none⟩ = some (.int .i64 i.n) ∧ w'.cell? ⟨w.heap.size + 1 + 1 + 1, 0, none⟩ = some (.int .i64 i.a) ∧ w'.cell? ⟨w.heap.size + 1 + 1 + 1, 1, none⟩ = some (.int .i64 i.b) ∧ w'.cell? ⟨w.heap.size + 1 + 1 + 1, 2, none⟩ = some (.int .i64 i.c) ∧ w'.cell? ⟨w.heap.size + 1 + 1 + 1, 3, none⟩ = some (.int .i64 i.n) ∧ Below wr.heap.size wr w') ((refine keepA hbP.out hbF.out hbI'.out hbX.out ?_; repeat (first | exact keepL (by assumption) | assumption | exact Below.refl _ _ | refine Below.drew ?_)))
                (first | (go_at_call 62; refine (hcall _ (by repeat (first | exact keepL (by assumption) | exact Below.refl _ _ | refine Below.drew ?_))).mono ?_; rintro e w' ⟨rfl, hb2⟩; have hBW : Below wr.heap.size wr w' := bthen (by repeat (first | exact keepL (by assumption) | exact Below.refl _ _ | refine Below.drew ?_)) hb2))
              by_cases h00 : e = 0
              · subst h00
                go_wp2
                go_roundw
                case rel => exact ⟨3, by omega, rfl, (fun j hj => by
                  by_cases hj' : j = 2
                  · subst hj'; exact he'.out
                  · exact hall j (by omega)), bthen hbr hBW⟩
                case measure => simp [intOf]
              · have hv : Hid (r = e) := hr.out.symm.trans ((insE_hit hne.out hun.out 2 (by omega) hall (fun q => h00 (he'.out.symm.trans q))).trans he'.out)
                go_wp2
                go_ret
                exact ⟨ret_i hv.out.symm, bthen (bthen hbw hbr) hBW⟩
            · subst hk3
              obtain ⟨e, he⟩ : ∃ e, Hid (opR M f i i.n (a3 : Int) = e) := ⟨_, rfl⟩
              have he' : Hid (opndE (roomR (M.pr.par i.b) i.c f.fn.regs) M.pr f.fn (lt i.op 3) (i.x 3) = e) := by
                show opndE (roomR (M.pr.par i.b) i.c f.regs) M.pr f.fn (lt i.op 3) i.n = e
                rw [opndE_irrel (r' := roomR (M.pr.par i.b) i.n f.regs) (fun q => by have := (p_where i.op 3 q).1; omega), L3.out]; exact he.out
              have hp : (a3 : Int) = 112 → 0 ≤ i.b ∧ i.b < (M.fns.length : Int) := fun h => by have := p_room 3 hall (L3.out.trans h); simpa [MPr.pr] using this
              have hcall : ∀ wx, Below wr.heap.size wr wx → Calls Tryd.prog 62 #[M.val, f.val, .int .u8 (a3 : Int), .int .i64 i.n, i.val] wx _ := fun wx hx => roperand_any M f i i.n wx e (a3 : Int) (hLr.later hx) hw.2.2.2.2 h0 h8 hp he
              clear he hp hLr
              obtain ⟨p0, p1, p2, p3, f0, f1, f2, f3, i0, i1, i2, i3, i4, x0, x1, x2, x3, _⟩ := keepA hbP.out hbF.out hbI'.out hbX.out (Below.refl _ wr)
              go_wp2_with fail
              go_region_held3 (fun w' => w'.cell? ⟨w.heap.size, 0, none⟩ = some (.slice M.va M.vars.length M.vcap) ∧ w'.cell? ⟨w.heap.size, 1, none⟩ = some (.int .i64 M.locks) ∧ w'.cell? ⟨w.heap.size, 2, none⟩ = some (.slice M.cha M.chans.length M.chcap) ∧ w'.cell? ⟨w.heap.size, 3, none⟩ = some (.slice M.fa M.fns.length M.fcap) ∧ w'.cell? ⟨w.heap.size + 1, 0, none⟩ = some (.int .i64 f.params) ∧ w'.cell? ⟨w.heap.size + 1, 1, none⟩ = some (.int .i64 f.regs) ∧ w'.cell? ⟨w.heap.size + 1, 2, none⟩ = some (.slice f.ca f.code.length f.ccap) ∧ w'.cell? ⟨w.heap.size + 1, 3, none⟩ = some (.slice f.sa f.sels.length f.scap) ∧ w'.cell? ⟨w.heap.size + 1 + 1, 0, none⟩ = some (.int .i64 i.op) ∧ w'.cell? ⟨w.heap.size + 1 + 1, 1, none⟩ = some (.int .i64 i.a) ∧ w'.cell? ⟨w.heap.size + 1 + 1, 2, none⟩ = some (.int .i64 i.b) ∧ w'.cell? ⟨w.heap.size + 1 + 1, 3, none⟩ = some (.int .i64 i.c) ∧ w'.cell? ⟨w.heap.size + 1 + 1, 4, none⟩ = some (.int .i64 i.n) ∧ w'.cell? ⟨w.heap.size + 1 + 1 + 1, 0, none⟩ = some (.int .i64 i.a) ∧ w'.cell? ⟨w.heap.size + 1 + 1 + 1, 1, none⟩ = some (.int .i64 i.b) ∧ w'.cell? ⟨w.heap.size + 1 + 1 + 1, 2, none⟩ = some (.int .i64 i.c) ∧ w'.cell? ⟨w.heap.size + 1 + 1 + 1, 3, none⟩ = some (.int .i64 i.n) ∧ Below wr.heap.size wr w') ((refine keepA hbP.out hbF.out hbI'.out hbX.out ?_; repeat (first | exact keepL (by assumption) | assumption | exact Below.refl _ _ | refine Below.drew ?_)))
                (first | (go_at_call 62; refine (hcall _ (by repeat (first | exact keepL (by assumption) | exact Below.refl _ _ | refine Below.drew ?_))).mono ?_; rintro e w' ⟨rfl, hb2⟩; have hBW : Below wr.heap.size wr w' := bthen (by repeat (first | exact keepL (by assumption) | exact Below.refl _ _ | refine Below.drew ?_)) hb2))
              by_cases h00 : e = 0
              · subst h00
                go_wp2
                go_roundw
                case rel => exact ⟨4, by omega, rfl, (fun j hj => by
                  by_cases hj' : j = 3
                  · subst hj'; exact he'.out
                  · exact hall j (by omega)), bthen hbr hBW⟩
                case measure => simp [intOf]
              · have hv : Hid (r = e) := hr.out.symm.trans ((insE_hit hne.out hun.out 3 (by omega) hall (fun q => h00 (he'.out.symm.trans q))).trans he'.out)
                go_wp2
                go_ret
                exact ⟨ret_i hv.out.symm, bthen (bthen hbw hbr) hBW⟩
        have hk0 : k = 0 ∨ k = 1 ∨ k = 2 ∨ k = 3 := by omega
        rcases hk0 with hk0 | hk1 | hk2 | hk3
        · subst hk0
          by_cases h45 : (a0 : Int) = 45
          · by_cases hx0 : i.a = 0
            · go_wp2
              go_round
              case rel => exact ⟨1, by omega, rfl, fun j hj q => by
                by_cases hj' : j = 0
                · subst hj'; exact q.2 hx0
                · exact hall j (by omega) q⟩
              case measure => simp [intOf]
            · have hv : Hid (r = 34) := hr.out.symm.trans (insE_unused hne.out ((unused_iff i).mpr ⟨0, by omega, L0.out.trans h45, hx0⟩))
              go_wp2
              go_ret
              exact ⟨ret_i hv.out.symm, hbw⟩
          · go_wp2
            go_round
            case rel => exact ⟨1, by omega, rfl, fun j hj q => by
              by_cases hj' : j = 0
              · subst hj'; exact h45 (L0.out.symm.trans q.1)
              · exact hall j (by omega) q⟩
            case measure => simp [intOf]
        · subst hk1
          by_cases h45 : (a1 : Int) = 45
          · by_cases hx0 : i.b = 0
            · go_wp2
              go_round
              case rel => exact ⟨2, by omega, rfl, fun j hj q => by
                by_cases hj' : j = 1
                · subst hj'; exact q.2 hx0
                · exact hall j (by omega) q⟩
              case measure => simp [intOf]
            · have hv : Hid (r = 34) := hr.out.symm.trans (insE_unused hne.out ((unused_iff i).mpr ⟨1, by omega, L1.out.trans h45, hx0⟩))
              go_wp2
              go_ret
              exact ⟨ret_i hv.out.symm, hbw⟩
          · go_wp2
            go_round
            case rel => exact ⟨2, by omega, rfl, fun j hj q => by
              by_cases hj' : j = 1
              · subst hj'; exact h45 (L1.out.symm.trans q.1)
              · exact hall j (by omega) q⟩
            case measure => simp [intOf]
        · subst hk2
          by_cases h45 : (a2 : Int) = 45
          · by_cases hx0 : i.c = 0
            · go_wp2
              go_round
              case rel => exact ⟨3, by omega, rfl, fun j hj q => by
                by_cases hj' : j = 2
                · subst hj'; exact q.2 hx0
                · exact hall j (by omega) q⟩
              case measure => simp [intOf]
            · have hv : Hid (r = 34) := hr.out.symm.trans (insE_unused hne.out ((unused_iff i).mpr ⟨2, by omega, L2.out.trans h45, hx0⟩))
              go_wp2
              go_ret
              exact ⟨ret_i hv.out.symm, hbw⟩
          · go_wp2
            go_round
            case rel => exact ⟨3, by omega, rfl, fun j hj q => by
              by_cases hj' : j = 2
              · subst hj'; exact h45 (L2.out.symm.trans q.1)
              · exact hall j (by omega) q⟩
            case measure => simp [intOf]
        · subst hk3
          by_cases h45 : (a3 : Int) = 45
          · by_cases hx0 : i.n = 0
            · go_wp2
              go_round
              case rel => exact ⟨4, by omega, rfl, fun j hj q => by
                by_cases hj' : j = 3
                · subst hj'; exact q.2 hx0
                · exact hall j (by omega) q⟩
              case measure => simp [intOf]
            · have hv : Hid (r = 34) := hr.out.symm.trans (insE_unused hne.out ((unused_iff i).mpr ⟨3, by omega, L3.out.trans h45, hx0⟩))
              go_wp2
              go_ret
              exact ⟨ret_i hv.out.symm, hbw⟩
          · go_wp2
            go_round
            case rel => exact ⟨4, by omega, rfl, fun j hj q => by
              by_cases hj' : j = 3
              · subst hj'; exact h45 (L3.out.symm.trans q.1)
              · exact hall j (by omega) q⟩
            case measure => simp [intOf]
  · have hn : formOf i.op = [] := Classical.byContradiction fun q => hk (hkn.out.mpr q)
    have hv : Hid (r = 33) := hr.out.symm.trans (insE_op hn)
    have h1 : bl = false := by cases bl <;> simp_all
    have h2 : bv = false := by cases bv <;> simp_all
    subst h1
    subst h2
    clear hk hkn hn cF hbl hbv hFm bP bF bI bX hL hbW hw
    go_enter Tryd.func48, Tryd.ntmps48
    go_wp2_with (first | (go_at_call 36; (with_reducible refine (cL _).mono ?_); rintro e w' ⟨rfl, rfl⟩) | (go_at_call 60; (with_reducible refine (cV _).mono ?_); rintro e w' ⟨rfl, rfl⟩))
    go_ret
    exact ⟨ret_i hv.out.symm, hb⟩
end Go.Proofs.YtjcmhaaohdmjpaaDoor.pg
