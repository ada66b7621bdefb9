/- A goroutine written into a state. -/
import Derived.Test.YtofeohhnfnnifaaDoorM32
import Derived.Test.YtofeohhnfnnifaaDoorM28
namespace Go.Proofs.YtofeohhnfnnifaaDoor.pg
open Go.ChangeShapes Go.WideShapes Go.ChangeAt Go.RowKit
set_option linter.unusedVariables false
set_option linter.unusedSimpArgs false
set_option maxRecDepth 100000
theorem setCells_block {B : Nat} {t : TypeId} : ∀ (vs : List Value) (o : Nat) (w : World) (cs : List Value), w.heap[B]? = some (.cells cs.toArray t (0, 0)) → o + vs.length ≤ cs.length → (w.setCells B o vs).heap[B]? = some (.cells (cs.take o ++ (vs ++ cs.drop (o + vs.length))).toArray t (0, 0))
  | [], o, w, cs, h, _ => by
    rw [List.nil_append, List.length_nil, Nat.add_zero, List.take_append_drop]
    exact h
  | v :: vs, o, w, cs, h, hl => by
    rw [List.length_cons] at hl
    have h1 : (w.setCell ⟨B, o, none⟩ v).heap[B]? = some (.cells (cs.set o v).toArray t (0, 0)) := by
      rw [setCell_eq_setRow w B o _ _ _ _ h, List.setIfInBounds_toArray]
      exact setRow_heap w B _ _ _ _ h
    have ih := setCells_block vs (o + 1) _ (cs.set o v) h1 (by rw [List.length_set]; omega)
    show ((w.setCell ⟨B, o, none⟩ v).setCells B (o + 1) vs).heap[B]? = _
    rw [ih]
    congr 3
    have e1 : (cs.set o v).take (o + 1) = cs.take o ++ [v] := by
      rw [List.take_add_one, List.take_set_of_le (Nat.le_refl _), List.getElem?_set_self (by omega)]
      rfl
    have e2 : (cs.set o v).drop (o + 1 + vs.length) = cs.drop (o + (vs.length + 1)) := by
      rw [List.drop_set_of_lt (by omega)]
      congr 1
      omega
    rw [e1, e2, List.append_assoc, List.length_cons]
    rfl
theorem setCells_out {B b : Nat} (hb : b ≠ B) : ∀ (vs : List Value) (o : Nat) (w : World), (w.setCells B o vs).heap[b]? = w.heap[b]?
  | [], _, _ => rfl
  | v :: vs, o, w => (setCells_out hb vs (o + 1) _).trans (Below.heap_setCell _ _ _ _ hb)
theorem below_cells {n B : Nat} (hB : n ≤ B) : ∀ (vs : List Value) (o : Nat) (a w : World), Below n a w → Below n a (w.setCells B o vs)
  | [], _, _, _, h => h
  | v :: vs, o, a, w, h => below_cells hB vs (o + 1) a _ (h.setCell (p := ⟨B, o, none⟩) hB v)
theorem InS.setGo {w : World} {B : Nat} {s : Sts} (h : InS w B s) (hs : s.wf) (g : Nat) (hg : g < 6) (x : Gr) (hx : x.wf) : InS (w.setCells B (48 + g * 12) x.cells) B (setG s g x) := by
  have hxl := Gr.len hx
  have hk : ∀ y ∈ s.gos, y.cells.length = 12 := fun y hy => Gr.len (hs.ag y hy)
  have lf : (s.gos.map Gr.cells).flatten.length = 72 := by rw [flat_len Gr.cells 12 _ hk, hs.lg]
  have la : (ints s.vars ++ (ints s.own ++ (s.ch.map Chc.cells).flatten)).length = 48 := by simp only [List.length_append, List.length_map, hs.lv, hs.lo, flat_len Chc.cells 9 _ fun c hc => Chc.len (hs.ac c hc), hs.lc]
  have e : s.cells = (ints s.vars ++ (ints s.own ++ (s.ch.map Chc.cells).flatten)) ++ ((s.gos.map Gr.cells).flatten ++ [.int .i64 s.cnt]) := by simp only [List.append_assoc]; rfl
  have key := setCells_block x.cells (48 + g * 12) w s.cells h (by rw [Sts.len hs, hxl]; omega)
  unfold InS
  rw [key]
  have hset := flat_set Gr.cells s.gos hk g x (by rw [hs.lg]; exact hg) hxl
  have e3 : (setG s g x).cells = (ints s.vars ++ (ints s.own ++ (s.ch.map Chc.cells).flatten)) ++ (((s.gos.set g x).map Gr.cells).flatten ++ [.int .i64 s.cnt]) := by simp only [List.append_assoc]; rfl
  have e4 : s.cells.take (48 + g * 12) ++ (x.cells ++ s.cells.drop (48 + g * 12 + x.cells.length)) = (setG s g x).cells := by
    rw [e3, ← hset, e, hxl]
    generalize (s.gos.map Gr.cells).flatten = f at *
    generalize ints s.vars ++ (ints s.own ++ (s.ch.map Chc.cells).flatten) = A at *
    rw [List.take_append, List.take_of_length_le (by omega), la, Nat.add_sub_cancel_left, List.take_append_of_le_length (by omega), List.drop_append, List.drop_eq_nil_of_le (by omega), List.nil_append, la, show 48 + g * 12 + 12 - 48 = g * 12 + 12 by omega, List.drop_append_of_le_length (by omega)]
    simp only [List.append_assoc]
  rw [e4]
theorem InS.there {w : World} {B : Nat} {s : Sts} (h : InS w B s) (hs : s.wf) (o n : Nat) (ho : o + n ≤ 121) : w.there B o n := fun j hj => by
  have hl := Sts.len hs
  refine ⟨?_, frozen_of_row _ _ _ _ _ h⟩
  rw [cell_ofG (k := o + j) h (by rw [List.getElem?_toArray, List.getElem?_eq_getElem (by omega)])]
  rfl
theorem wpList_putG {ops : Array Oper} {rest : List Oper} {o : Oper} {a : Act} {w : World} {Q : Exit → Act → World → Prop} (hgd : o.guard = none) (x y : Operand) (ho : o.op = .store 35 x y) (B g : Nat) (s : Sts) (hs : s.wf) (hg : g < 6) (X : Gr) (hX : X.wf) (hx : a.eval x = .pointer (some ⟨B, 48 + g * 12, none⟩)) (hy : a.eval y = X.val) (hB : InS w B s)
    (h : ∀ W', InS W' B (setG s g X) → (∀ n v, n ≤ B → Below n v w → Below n v W') → (∀ b, b ≠ B → W'.heap[b]? = w.heap[b]?) → wpList Tryd.prog ops Q rest (a.put o.dst undef) W') : wpList Tryd.prog ops Q (o :: rest) a w := by
  refine wpList_store_mid hgd 35 x y ho B (48 + g * 12) X.cells.toArray hx hy (hB.there hs _ _ (by rw [List.size_toArray, Gr.len hX]; omega)) (infoGw hX) (oneG X) ?_
  rw [List.toList_toArray]
  exact h _ (hB.setGo hs g hg X hX) (fun n v hn hb => below_cells hn _ _ _ _ hb) (fun b hb => setCells_out hb _ _ _)
theorem ixg (B : Nat) (a : Int) (h0 : 0 ≤ a) (h1 : a < 6) : ∀ wx, (Instr.indexAt 36 (.pointer (some ⟨B, 48, none⟩)) (.int .i64 a)).run Tryd.prog wx = .ok (.pointer (some ⟨B, 48 + a.toNat * 12, none⟩)) wx := ixp Tryd.underlying36 (fun wx => Tryd.sizeOf35 wx) B 48 a h0 h1
theorem ixg0 (B : Nat) : ∀ wx, (Instr.indexAt 36 (.pointer (some ⟨B, 48, none⟩)) (.int .i64 0)).run Tryd.prog wx = .ok (.pointer (some ⟨B, 48, none⟩)) wx := ixg B 0 (by omega) (by omega)
theorem ixv8 (B k : Nat) (h : k < 8) : ∀ wx, (Instr.indexAt 28 (.pointer (some ⟨B, 0, none⟩)) (.int .i64 (k : Int))).run Tryd.prog wx = .ok (.pointer (some ⟨B, k, none⟩)) wx := by
  have := ixp (t := 28) Tryd.underlying28 (fun wx => Tryd.sizeOf2 wx) B 0 (k : Int) (by omega) (by omega)
  rwa [show 0 + ((k : Int)).toNat * 1 = k by omega] at this
/-- What Start tells. -/
noncomputable def startR (P : Pr) (f : Int) : Sts × Int := if (chk insP P).1 = 0 then (if 0 ≤ f ∧ f ≤ 4096 then (startS word.apF P f.toNat, 0) else (zeroS, 1)) else (zeroS, 3)
/-- Where all lies while a state is made. -/
structure StM (w wr : World) (M : MPr) (SB : Nat) (s : Sts) : Prop where
  b : Below w.heap.size w wr
  p : BoxP wr w.heap.size M
  z : InS wr (w.heap.size + 1) zeroS
  st : InS wr SB s
  hS : w.heap.size + 1 < SB
theorem StM.later {w wr w' : World} {M : MPr} {SB : Nat} {s : Sts} (h : StM w wr M SB s) (hb : Below wr.heap.size wr w') : StM w w' M SB s := ⟨bthen h.b hb, h.p.later hb, h.z.later hb, h.st.later hb, h.hS⟩
def ivS (vs : List Vr) : Sts := { firstS with vars := iv vs }
theorem ivS_wf {vs : List Vr} (h : vs.length ≤ 8) (ha : ∀ x ∈ vs, I64 x.init) : (ivS vs).wf := ⟨iv_len h, rfl, rfl, rfl, iv_all ha, firstS_wf.ao, firstS_wf.ac, firstS_wf.ag, firstS_wf.cn⟩
theorem startS_eq (ap : Int → Int → Int → Int × Int) (P : Pr) (f : Nat) : setG (ivS P.vars) 0 (runG ap (fun o => decide (locP o)) (fnAt P 0).code f freshG) = startS ap P f := rfl
end Go.Proofs.YtofeohhnfnnifaaDoor.pg
/- How the document's own machine runs a goroutine's local instructions. -/
namespace Go.Proofs.YtofeohhnfnnifaaDoor.pg
open Go.ChangeShapes Go.WideShapes Go.ChangeAt Go.RowKit
set_option linter.unusedVariables false
set_option linter.unusedSimpArgs false
set_option maxRecDepth 100000
theorem rended_any (g : Gr) (st why : Int) (w : World) : Calls Tryd.prog 38 #[g.val, .int .i64 st, .int .i64 why] w fun e w' => e = .returned (g.end st why).val ∧ Below w.heap.size w w' := by
  have hb := boxed2 w (objG g) (objG zeroG)
  obtain ⟨h1, h2⟩ := two_boxes w (objG g) (objG zeroG)
  go_enter Tryd.func38, Tryd.ntmps38
  go_upto_region 1 with fail
  rw [show (Obj.cells #[.int .i64 0, .int .i64 0, .int .i64 0, .int .i64 0, .int .i64 0, .int .i64 0, .int .i64 0, .int .i64 0, .int .i64 0, .int .i64 0, .int .i64 0, .int .i64 0] 35) = objG zeroG from rfl]
  generalize (w.alloc (objG g)).alloc (objG zeroG) = W at *
  have h1' : InG W w.heap.size g := h1
  have h2' : InG W (w.heap.size + 1) zeroG := h2
  have x1 := h1'.c1
  have x2 := h1'.c2
  clear h1 h2 h1'
  have hbH : Hid (Below w.heap.size w W) := hb
  clear hb
  go_wp2_with (refine wpList_store_row rfl 35 _ _ rfl (w.heap.size + 1) (g.end st why).cells.toArray rfl rfl _ _ h2' (infoG (end_len g st why)) rfl (oneG (g.end st why)) ?_)
  exact bodyPost_ret (results_g Tryd.results38 _ _ (w.heap.size + 1) (g.end st why) rfl rfl (h2'.set _)) rfl ⟨rfl, below_setRowG hbH.out (by omega) _⟩
theorem BoxP.set {w : World} {B B' k : Nat} {x : MPr} {v : Value} (h : BoxP w B x) (hne : B ≠ B') : BoxP (w.setCell ⟨B', k, none⟩ v) B x := by
  have key : ∀ q, (w.setCell ⟨B', k, none⟩ v).cell? ⟨B, q, none⟩ = w.cell? ⟨B, q, none⟩ := fun q => by simp only [World.cell?, Below.heap_setCell w ⟨B', k, none⟩ v B hne]
  exact ⟨(key 0).trans h.1, (key 1).trans h.2.1, (key 2).trans h.2.2.1, (key 3).trans h.2.2.2⟩
/-- Where all lies between two rounds. -/
structure Rn (w wr : World) (M : MPr) (h : Gr) : Prop where
  b : Below w.heap.size w wr
  p : BoxP wr w.heap.size M
  gb : InG wr (w.heap.size + 1) h
  z : InG wr (w.heap.size + 2) zeroG
theorem Rn.later {w wr w' : World} {M : MPr} {h : Gr} (r : Rn w wr M h) (hb : Below wr.heap.size wr w') : Rn w w' M h := ⟨bthen r.b hb, r.p.later hb, r.gb.later hb, r.z.later hb⟩
theorem Rn.cell {w wr : World} {M : MPr} {h h' : Gr} (r : Rn w wr M h) (k : Nat) (v : Value) (hg : InG (wr.setCell ⟨w.heap.size + 1, k, none⟩ v) (w.heap.size + 1) h') : Rn w (wr.setCell ⟨w.heap.size + 1, k, none⟩ v) M h' :=
  ⟨r.b.setCell (p := ⟨w.heap.size + 1, k, none⟩) (by show w.heap.size ≤ w.heap.size + 1; omega) _, r.p.set (by omega), hg, (Below.heap_setCell _ _ _ _ (by simp)).trans r.z⟩
theorem Rn.setR {w wr : World} {M : MPr} {h : Gr} (r : Rn w wr M h) (a x : Int) : Rn w (wr.setCell ⟨w.heap.size + 1, 4 + a.toNat, none⟩ (.int .i64 x)) M (h.set a x) := r.cell _ _ (r.gb.setR a x)
theorem Rn.setP {w wr : World} {M : MPr} {h : Gr} (r : Rn w wr M h) (x : Int) : Rn w (wr.setCell ⟨w.heap.size + 1, 2, none⟩ (.int .i64 x)) M { h with pc := x } := r.cell _ _ (r.gb.setP x)
theorem Rn.setS {w wr : World} {M : MPr} {h : Gr} (r : Rn w wr M h) (x : Int) : Rn w (wr.setCell ⟨w.heap.size + 1, 0, none⟩ (.int .i64 x)) M { h with st := x } := r.cell _ _ (r.gb.setS x)
set_option maxHeartbeats 4000000 in
theorem settled_any (M : MPr) (g : Gr) (f : Nat) (hok : (chk insP M.pr).1 = 0) (n0 : 0 ≤ g.fn) (n1 : g.fn < M.fns.length) (hg : GrIn (fnAt M.pr g.fn).code g) (hf : f ≤ 4096) (w : World) (hM : M.lies w) :
    Calls Tryd.prog 22 #[M.val, g.val, .int .i64 (f : Int)] w fun e w' => e = .returned (runG word.apF lcB (fnAt M.pr g.fn).code f { g with st := 1 }).val ∧ Below w.heap.size w w' := by
  obtain ⟨F, hFi, hFm⟩ : ∃ F, M.fns[g.fn.toNat]? = some F ∧ F ∈ M.fns := get_lt _ _ (by omega)
  have eF : fnAt M.pr g.fn = F.fn := by
    unfold fnAt
    rw [List.getD_eq_getElem?_getD]
    show ((M.fns.map MFn.fn)[g.fn.toNat]?).getD _ = _
    rw [List.getElem?_map, hFi]
    rfl
  have hc : GoodC F.regs F.code := by
    have := good_of hok F.fn (List.mem_map.mpr ⟨F, hFm, rfl⟩)
    exact this
  rw [eF] at hg ⊢
  have hwf : ∀ i ∈ F.code, i.wf := ((hM.2.2.2.2.2.2 F hFm).2.2.1)
  have eC : F.fn.code = F.code := rfl
  rw [eC] at hg ⊢
  obtain ⟨R, hR⟩ : ∃ R, Hid (R = runG word.apF lcB F.code f { g with st := 1 }) := ⟨_, rfl⟩
  rw [← hR.out]
  obtain ⟨q1, q2, q3⟩ := three_boxes w (objP M) (objG g) (objG zeroG)
  have s0 : Hid (Rn w (((w.alloc (objP M)).alloc (objG g)).alloc (objG zeroG)) M g) := ⟨boxed3 _ _ _ _, ⟨cell_ofG q1 rfl, cell_ofG q1 rfl, cell_ofG q1 rfl, cell_ofG q1 rfl⟩, q2, q3⟩
  have hMH : Hid (M.lies w) := hM
  have hcH : Hid (GoodC F.regs F.code) := hc
  have hwH : Hid (∀ i ∈ F.code, i.wf) := hwf
  clear q1 q2 q3 hM hc hwf eF eC hok
  go_enter Tryd.func22, Tryd.ntmps22
  go_upto_region 1 with fail
  rw [show (Obj.cells #[.int .i64 0, .int .i64 0, .int .i64 0, .int .i64 0, .int .i64 0, .int .i64 0, .int .i64 0, .int .i64 0, .int .i64 0, .int .i64 0, .int .i64 0, .int .i64 0] 35) = objG zeroG from rfl]
  generalize ((w.alloc (objP M)).alloc (objG g)).alloc (objG zeroG) = W at *
  have z0 := s0.out.gb.c0
  have z0f := s0.out.gb.fz 0
  go_upto_region 2 with (refine wpList_puti rfl 3 _ _ rfl ⟨w.heap.size + 1, 0, none⟩ rfl 1 rfl (by kernel_rfl) _ z0 z0f ?_; intro W1 hW1; (have s1 : Hid (Rn w W1 M { g with st := 1 }) := by rw [hW1]; exact s0.out.setS 1); clear hW1 z0 z0f s0)
  simp only [Act.put, List.setIfInBounds_toArray, List.set_cons_zero, List.set_cons_succ]
  go_loopw [2] (fun u wr => ∃ (k : Nat) (h : Gr), u = .int .i64 (k : Int) ∧ k ≤ 4096 ∧ Rn w wr M h ∧ runG word.apF lcB F.code k h = R ∧ GrIn F.code h ∧ (h.st = 1 ∧ h.fn = g.fn)) (fun u _ => (intOf u).toNat)
  case atStart => exact ⟨f, { g with st := 1 }, rfl, hf, s1.out, hR.out.symm, ⟨hg.p0, hg.p1, hg.rl, hg.ri⟩, rfl, rfl⟩
  case round =>
    clear s1 hR hg
    obtain ⟨k, h, rfl, hk, hs, he, hi, hh1, hh2⟩ := hrel
    have hsH : Hid (Rn w wr M h) := hs
    obtain ⟨m1, m2⟩ := insAt_mem hi.p0 hi.p1
    obtain ⟨fb, fo, hfix, hfb, fc0, fc1, fc2, fc3⟩ := fn_ix hMH.out.2.2.1 g.fn.toNat F hFi
    obtain ⟨ib, io, hix, hib, ic0, ic1, ic2, ic3, ic4⟩ := ins_ix ((hMH.out.2.2.2.2.2.2 F hFm).1) h.pc.toNat _ m1
    have hpe : ((h.pc.toNat : Nat) : Int) = h.pc := by have := hi.p0; omega
    have hfe : ((g.fn.toNat : Nat) : Int) = h.fn := by omega
    rw [hpe] at hix
    rw [hfe] at hfix
    have hop := (hwH.out _ m2).1
    have hn64 := (hwH.out _ m2).2.2.2.2
    have cL : ∀ wx, Calls Tryd.prog 36 #[.int .i64 (insAt F.code h.pc).op] wx _ := fun wx => prog.reflocal_any (insAt F.code h.pc).op hop.1 hop.2 wx _ rfl
    have hl : h.rg.length = 8 := hi.rl
    have p0 := hi.p0
    have p1 : h.pc < 64 := by have := hi.p1; have := hcH.out.l64; omega
    have gi := hcH.out.each _ m2
    have r8 := hcH.out.r8
    have hgb := hi.ri.get
    have lat : ∀ {b q : Nat} {v : Value}, b < w.heap.size → w.cell? ⟨b, q, none⟩ = some v → ∀ w', Below w.heap.size w w' → w'.cell? ⟨b, q, none⟩ = some v := fun {b q v} hb hv w' hw' => (hw'.cell (p := ⟨b, q, none⟩) hb).trans hv
    have lin : locP (insAt F.code h.pc).op → GrIn F.code (loc1 word.apF h (insAt F.code h.pc)) := fun q => loc1_in hcH.out hi q hn64 fun q1 q2 => (hapF _ _ _ q1 q2 (hgb _) (hgb _)).1
    generalize hI : insAt F.code h.pc = i at *
    have fStop : ¬ locP i.op → ∀ k, runG word.apF lcB F.code k h = h := fun c k => runG_stop (fun q => c (by rw [hI] at q; exact of_decide_eq_true q.2)) k
    have fZero : locP i.op → runG word.apF lcB F.code 0 h = { h with st := 5 } := fun c => runG_zero ⟨hh1, by rw [hI]; exact decide_eq_true c⟩
    have fStep : locP i.op → ∀ k, runG word.apF lcB F.code (k + 1) h = runG word.apF lcB F.code k (loc1 word.apF h i) := fun c k => by have := runG_step (ap := word.apF) (lc := lcB) (code := F.code) (g := h) ⟨hh1, by rw [hI]; exact decide_eq_true c⟩ k; rw [hI] at this; exact this
    have hrg : w.rangeAt ib io i.cells := fun q v hv => by
      match q, hv with
      | 0, hv => cases hv; exact ic0
      | 1, hv => cases hv; exact ic1
      | 2, hv => cases hv; exact ic2
      | 3, hv => cases hv; exact ic3
      | 4, hv => cases hv; exact ic4
    go_wp2_with fail
    obtain ⟨ZI, hZ1, hZ2, _⟩ := zero_big (P := Tryd.prog) (t := 74) (n := 5) (by kernel_rfl)
    have hH : Below wr.heap.size wr wr.drew := bey_drew wr
    refine wp_region_held_drew (S := fun w' => Below wr.heap.size wr w') (by kernel_rfl) hH (fun _ => ?_)
    refine reg_move (i := 0) rfl (by kernel_rfl) (by kernel_rfl) (by kernel_rfl) (fun _ _ _ _ h => h) rfl (.pointer (some ⟨w.heap.size, 3, none⟩)) (fun _ => by kernel_rfl) hH ?_
    simp only [Act.put, List.getElem_toArray, List.getElem_cons_succ, List.getElem_cons_zero, List.setIfInBounds_toArray, List.set_cons_zero, List.set_cons_succ]
    refine reg_load1 (i := 1) rfl (by kernel_rfl) (by kernel_rfl) (by kernel_rfl) (fun _ _ _ _ h => h) rfl 24 _ rfl ⟨w.heap.size, 3, none⟩ rfl _ Tryd.underlying24 rfl (.slice M.fa M.fns.length M.fcap) (fun w' h' => (hsH.out.p.later h').2.2.2) hH ?_
    simp only [Act.put, List.getElem_toArray, List.getElem_cons_succ, List.getElem_cons_zero, List.setIfInBounds_toArray, List.set_cons_zero, List.set_cons_succ]
    refine reg_move (i := 2) rfl (by kernel_rfl) (by kernel_rfl) (by kernel_rfl) (fun _ _ _ _ h => h) rfl (.pointer (some ⟨w.heap.size + 1, 1, none⟩)) (fun _ => by kernel_rfl) hH ?_
    simp only [Act.put, List.getElem_toArray, List.getElem_cons_succ, List.getElem_cons_zero, List.setIfInBounds_toArray, List.set_cons_zero, List.set_cons_succ]
    refine reg_load1 (i := 3) rfl (by kernel_rfl) (by kernel_rfl) (by kernel_rfl) (fun _ _ _ _ h => h) rfl 3 _ rfl ⟨w.heap.size + 1, 1, none⟩ rfl _ Tryd.underlying3 rfl _ (fun w' h' => (hsH.out.gb.later h').c1) hH ?_
    simp only [Act.put, List.getElem_toArray, List.getElem_cons_succ, List.getElem_cons_zero, List.setIfInBounds_toArray, List.set_cons_zero, List.set_cons_succ]
    refine reg_move (i := 4) rfl (by kernel_rfl) (by kernel_rfl) (by kernel_rfl) (fun _ _ _ _ h => h) rfl (.pointer (some ⟨fb, fo, none⟩)) (fun wx => by unfold execOp; exact run_valueS (hfix wx)) hH ?_
    simp only [Act.put, List.getElem_toArray, List.getElem_cons_succ, List.getElem_cons_zero, List.setIfInBounds_toArray, List.set_cons_zero, List.set_cons_succ]
    refine reg_move (i := 5) rfl (by kernel_rfl) (by kernel_rfl) (by kernel_rfl) (fun _ _ _ _ h => h) rfl (.pointer (some ⟨fb, fo + 2, none⟩)) (fun _ => by kernel_rfl) hH ?_
    simp only [Act.put, List.getElem_toArray, List.getElem_cons_succ, List.getElem_cons_zero, List.setIfInBounds_toArray, List.set_cons_zero, List.set_cons_succ]
    refine reg_load1 (i := 6) rfl (by kernel_rfl) (by kernel_rfl) (by kernel_rfl) (fun _ _ _ _ h => h) rfl 55 _ rfl ⟨fb, fo + 2, none⟩ rfl _ Tryd.underlying55 rfl (.slice F.ca F.code.length F.ccap) (fun w' h' => lat hfb fc2 w' (bthen hsH.out.b h')) hH ?_
    simp only [Act.put, List.getElem_toArray, List.getElem_cons_succ, List.getElem_cons_zero, List.setIfInBounds_toArray, List.set_cons_zero, List.set_cons_succ]
    refine reg_move (i := 7) rfl (by kernel_rfl) (by kernel_rfl) (by kernel_rfl) (fun _ _ _ _ h => h) rfl (.pointer (some ⟨w.heap.size + 1, 2, none⟩)) (fun _ => by kernel_rfl) hH ?_
    simp only [Act.put, List.getElem_toArray, List.getElem_cons_succ, List.getElem_cons_zero, List.setIfInBounds_toArray, List.set_cons_zero, List.set_cons_succ]
    refine reg_load1 (i := 8) rfl (by kernel_rfl) (by kernel_rfl) (by kernel_rfl) (fun _ _ _ _ h => h) rfl 3 _ rfl ⟨w.heap.size + 1, 2, none⟩ rfl _ Tryd.underlying3 rfl _ (fun w' h' => (hsH.out.gb.later h').c2) hH ?_
    simp only [Act.put, List.getElem_toArray, List.getElem_cons_succ, List.getElem_cons_zero, List.setIfInBounds_toArray, List.set_cons_zero, List.set_cons_succ]
    refine reg_move (i := 9) rfl (by kernel_rfl) (by kernel_rfl) (by kernel_rfl) (fun _ _ _ _ h => h) rfl (.pointer (some ⟨ib, io, none⟩)) (fun wx => by unfold execOp; exact run_valueS (hix wx)) hH ?_
    simp only [Act.put, List.getElem_toArray, List.getElem_cons_succ, List.getElem_cons_zero, List.setIfInBounds_toArray, List.set_cons_zero, List.set_cons_succ]
    refine reg_load (i := 10) rfl (by kernel_rfl) (by kernel_rfl) (by kernel_rfl) (fun _ _ _ _ h => h) rfl 74 _ rfl ib io rfl i.cells _ (fun w' h' => fun q v hv => lat hib (hrg q v hv) w' (bthen hsH.out.b h')) Tryd.underlying74 rfl (by kernel_rfl) hH ?_
    simp only [Act.put, List.getElem_toArray, List.getElem_cons_succ, List.getElem_cons_zero, List.setIfInBounds_toArray, List.set_cons_zero, List.set_cons_succ]
    have hH1 : Below wr.heap.size wr (wr.drew.alloc (.cells ZI 74)) := bthen hH (boxed _ _)
    refine reg_one (i := 11) (by kernel_rfl) rfl rfl (wpList_alloc_big rfl 74 rfl hZ1 (wpList_nil (And.intro hH1 fun _ => ?_)))
    simp only [Act.put, List.getElem_toArray, List.getElem_cons_succ, List.getElem_cons_zero, List.setIfInBounds_toArray, List.set_cons_zero, List.set_cons_succ]
    have hH2 : Below wr.heap.size wr (wr.drew.alloc (.cells i.cells.toArray 74)) := bthen hH (boxed _ _)
    refine reg_one (i := 12) (by kernel_rfl) rfl rfl (wpList_store_new (w := wr.drew) rfl 74 _ _ rfl rfl ZI i.cells.toArray rfl (by kernel_rfl) hZ2 (by simp [Ins.cells, Value.oneCell']) (wpList_nil (And.intro hH2 fun _ => ?_)))
    simp only [Act.put, List.getElem_toArray, List.getElem_cons_succ, List.getElem_cons_zero, List.setIfInBounds_toArray, List.set_cons_zero, List.set_cons_succ]
    refine wpAnyH_done (by kernel_rfl) ?_ _
    have hV : Hid (Rn w (wr.drew.alloc (.cells i.cells.toArray 74)) M h) := hsH.out.later hH2
    have hIb : (wr.drew.alloc (.cells i.cells.toArray 74)).heap[wr.heap.size]? = some (.cells i.cells.toArray 74) := heap_alloc_new wr.drew _
    have bI : BoxI (wr.drew.alloc (.cells i.cells.toArray 74)) wr.heap.size i := ⟨cell_ofG hIb rfl, cell_ofG hIb rfl, cell_ofG hIb rfl, cell_ofG hIb rfl, cell_ofG hIb rfl⟩
    have hBI : w.heap.size + 2 < wr.heap.size := hsH.out.z.lt
    have hszI : wr.drew.heap.size = wr.heap.size := rfl
    rw [hszI]
    generalize wr.drew.alloc (.cells i.cells.toArray 74) = V at *
    generalize wr.heap.size = IB at *
    clear hH hH1 hH2 hIb hszI hix hfix hrg ic0 ic1 ic2 ic3 ic4 fc0 fc1 fc2 fc3 lat hZ1 hZ2 hs hsH hfb hib hI hpe hfe m1 m2 hi hcH hwH hMH hFi hFm n0 n1 hf
    have hh1' : Hid (h.st = 1) := hh1
    have hh2' : Hid (h.fn = g.fn) := hh2
    clear hh1 hh2
    have hh1 := hh1'
    have hh2 := hh2'
    clear hh1' hh2'
    have bIH : Hid (BoxI V IB i) := bI
    obtain ⟨i0, i1, i2, i3, i4⟩ := bI
    have hg2 := hV.out.gb
    have hz2 := hV.out.z
    have heH : Hid (runG word.apF lcB F.code k h = R) := he
    clear he
    by_cases c2 : locP i.op
    · have cLt : ∀ wx, Calls Tryd.prog 36 #[.int .i64 i.op] wx fun e w' => e = .returned (.bool true) ∧ w' = wx := fun wx => by have := cL wx; rw [loc_lcB, show lcB i.op = true from decide_eq_true c2] at this; exact this
      clear cL fStop
      cases k with
      | zero =>
        have hfin : Hid (R = { h with st := 5 }) := by show _ = _; rw [← heH.out]; exact fZero c2
        have hX5 : ({ h with st := 5 } : Gr).rg.length = 8 := hl
        rw [show (((0 : Nat) : Int)) = 0 from rfl]
        have z0 := hg2.c0
        have z0f := hg2.fz 0
        clear fZero fStep lin gi hgb c2 hz2 hg2
        go_wp2_with (first
          | (go_at_call 36; (with_reducible refine (cLt _).mono ?_); rintro e w2 ⟨rfl, rfl⟩)
          | (refine wpList_puti rfl 3 _ _ rfl ⟨w.heap.size + 1, 0, none⟩ rfl 5 rfl (by kernel_rfl) _ z0 z0f ?_; intro W1 hW1; (have hr2 : Hid (Rn w W1 M { h with st := 5 }) := by rw [hW1]; exact hV.out.setS 5); (have hg2 := hr2.out.gb); (have hz2 := hr2.out.z); clear hW1 z0 z0f)
          | (refine wpList_load_row rfl 35 _ rfl (w.heap.size + 1) rfl _ _ _ _ hg2 Tryd.underlying35 rfl (infoG hX5) ?_)
          | (refine wpList_store_row rfl 35 _ _ rfl (w.heap.size + 2) (Gr.cells { h with st := 5 }).toArray rfl rfl _ _ hz2 (infoG hX5) (sizeGG rfl hX5) (oneG _) ?_))
        exact bodyPost_ret (results_g Tryd.results22 _ _ (w.heap.size + 2) { h with st := 5 } hX5 rfl (hz2.set _)) rfl ⟨by rw [hfin.out], below_setRowG hr2.out.b (by omega) _⟩
      | succ k =>
        have hnx0 : runG word.apF lcB F.code k (loc1 word.apF h i) = R := by rw [← heH.out]; exact (fStep c2 k).symm
        have hin0 := lin c2
        have hk0 : (((k + 1 : Nat) : Int) == 0) = false := by simp; omega
        have hkm : ((k + 1 : Nat) : Int) - 1 = (k : Int) := by omega
        have hkw : wrap64 (((k + 1 : Nat) : Int) - 1) = (k : Int) := by rw [hkm]; unfold wrap64; omega
        have hkn : k < (((k + 1 : Nat) : Int)).toNat := by omega
        generalize ((k + 1 : Nat) : Int) = K at *
        clear fZero fStep lin heH hkm hop hn64
        obtain ⟨op, a, b, c, nn⟩ := i
        have ga : (1 ≤ op ∧ op ≤ 36) ∨ op = 40 ∨ op = 41 ∨ op = 43 ∨ op = 44 → inR a F.regs := gi.a
        have gb : (1 ≤ op ∧ op ≤ 36) ∨ op = 41 → inR b F.regs := gi.b
        have gc : (1 ≤ op ∧ op ≤ 36) → inR c F.regs := gi.c
        have ho' : (1 ≤ op ∧ op ≤ 36) ∨ (40 ≤ op ∧ op ≤ 45) := c2
        clear gi c2 bIH
        simp only at i0 i1 i2 i3 i4 cLt
        by_cases h40 : op = 40
        · subst h40
          have qa := ga (by omega)
          have ra := hg2.reg hl a (by omega) (by omega)
          have fa := hg2.fz (4 + a.toNat)
          have xa := ix8 (w.heap.size + 1) a (by omega) (by omega)
          have eN : loc1 word.apF h ⟨40, a, b, c, nn⟩ = (h.set a nn).adv := by simp [loc1]
          rw [eN] at hnx0 hin0
          have hnx : Hid (runG word.apF lcB F.code k ((h.set a nn).adv) = R) := hnx0
          have hin : Hid (GrIn F.code ((h.set a nn).adv)) := hin0
          clear hnx0 hin0 eN
          go_wp2_with (first
            | (go_at_call 36; (with_reducible refine (cLt _).mono ?_); rintro e w2 ⟨rfl, rfl⟩)
            | (refine wpList_puti rfl 2 _ _ rfl ⟨w.heap.size + 1, 4 + a.toNat, none⟩ rfl (nn) rfl (by kernel_rfl) _ ra fa ?_; intro W1 hW1; (have hr1 : Hid (Rn w W1 M (h.set a nn)) := by rw [hW1]; exact hV.out.setR a (nn)); (have x2 := hr1.out.gb.c2); (have f2 := hr1.out.gb.fz 2); clear hW1 ra fa)
            | (refine wpList_puti rfl 3 _ _ rfl ⟨w.heap.size + 1, 2, none⟩ rfl (h.pc + 1) (by rw [← pc1 p0 p1]; rfl) (by kernel_rfl) _ x2 f2 ?_; intro W2 hW2; (have hr2 : Hid (Rn w W2 M (h.set a nn).adv) := by rw [hW2]; exact hr1.out.setP (h.pc + 1)); clear hW2 x2 f2))
          simp only [Act.put]
          go_roundw
          case rel => exact ⟨k, ((h.set a nn).adv), by first | rfl | (rw [hkw]), by omega, hr2.out, hnx.out, hin.out, hh1.out, hh2.out⟩
          case measure => first | (simp [intOf]; done) | (simp [intOf]; omega)
        by_cases h41 : op = 41
        · subst h41
          have qa := ga (by omega)
          have qb := gb (by omega)
          have ra := hg2.reg hl a (by omega) (by omega)
          have fa := hg2.fz (4 + a.toNat)
          have xa := ix8 (w.heap.size + 1) a (by omega) (by omega)
          have rb := hg2.reg hl b (by omega) (by omega)
          have xb := ix8 (w.heap.size + 1) b (by omega) (by omega)
          have eN : loc1 word.apF h ⟨41, a, b, c, nn⟩ = (h.set a (h.get b)).adv := by simp [loc1]
          rw [eN] at hnx0 hin0
          have hnx : Hid (runG word.apF lcB F.code k ((h.set a (h.get b)).adv) = R) := hnx0
          have hin : Hid (GrIn F.code ((h.set a (h.get b)).adv)) := hin0
          clear hnx0 hin0 eN
          generalize h.get b = v at *
          go_wp2_with (go_at_call 36; (with_reducible refine (cLt _).mono ?_); rintro e w2 ⟨rfl, rfl⟩)
          go_region
          obtain ⟨W1, hW1⟩ : ∃ W1, W1 = (w2.setCell ⟨w.heap.size + 1, 4 + a.toNat, none⟩ (.int .i64 v)).drew := ⟨_, rfl⟩
          have e1 : w2.drew.setCell ⟨w.heap.size + 1, 4 + a.toNat, none⟩ (.int .i64 v) = W1 := by rw [hW1]; rfl
          have hr1 : Hid (Rn w W1 M (h.set a v)) := by rw [hW1]; exact (hV.out.setR a v).later (Below.refl _ _).drew
          have x2 := hr1.out.gb.c2
          have f2 := hr1.out.gb.fz 2
          first | rw [e1] | rw [← hW1]
          clear hW1 e1 ra fa rb i0 i1 i2 i3 i4
          go_wp2_with (first
            | (refine wpList_puti rfl 3 _ _ rfl ⟨w.heap.size + 1, 2, none⟩ rfl (h.pc + 1) (by rw [← pc1 p0 p1]; rfl) (by kernel_rfl) _ x2 f2 ?_; intro W2 hW2; (have hr2 : Hid (Rn w W2 M (h.set a v).adv) := by rw [hW2]; exact hr1.out.setP (h.pc + 1)); clear hW2 x2 f2))
          simp only [Act.put]
          go_roundw
          case rel => exact ⟨k, ((h.set a v).adv), by first | rfl | (rw [hkw]), by omega, hr2.out, hnx.out, hin.out, hh1.out, hh2.out⟩
          case measure => first | (simp [intOf]; done) | (simp [intOf]; omega)
        by_cases h42 : op = 42
        · subst h42
          have hr1 : Hid (Rn w V M h) := hV
          have x2 := hg2.c2
          have f2 := hg2.fz 2
          have eN : loc1 word.apF h ⟨42, a, b, c, nn⟩ = { h with pc := a } := by simp [loc1]
          rw [eN] at hnx0 hin0
          have hnx : Hid (runG word.apF lcB F.code k ({ h with pc := a }) = R) := hnx0
          have hin : Hid (GrIn F.code ({ h with pc := a })) := hin0
          clear hnx0 hin0 eN
          go_wp2_with (first
            | (go_at_call 36; (with_reducible refine (cLt _).mono ?_); rintro e w2 ⟨rfl, rfl⟩)
            | (refine wpList_puti rfl 3 _ _ rfl ⟨w.heap.size + 1, 2, none⟩ rfl (a) rfl (by kernel_rfl) _ x2 f2 ?_; intro W2 hW2; (have hr2 : Hid (Rn w W2 M { h with pc := a }) := by rw [hW2]; exact hr1.out.setP (a)); clear hW2 x2 f2))
          simp only [Act.put]
          go_roundw
          case rel => exact ⟨k, { h with pc := a }, by first | rfl | (rw [hkw]), by omega, hr2.out, hnx.out, hin.out, hh1.out, hh2.out⟩
          case measure => first | (simp [intOf]; done) | (simp [intOf]; omega)
        by_cases h43 : op = 43
        · subst h43
          have qa := ga (by omega)
          have ra := hg2.reg hl a (by omega) (by omega)
          have fa := hg2.fz (4 + a.toNat)
          have xa := ix8 (w.heap.size + 1) a (by omega) (by omega)
          have hr1 : Hid (Rn w V M h) := hV
          have x2 := hg2.c2
          have f2 := hg2.fz 2
          by_cases z : h.get a = 0
          · have eN : loc1 word.apF h ⟨43, a, b, c, nn⟩ = h.adv := by simp [loc1, z]
            rw [eN] at hnx0 hin0
            have hnx : Hid (runG word.apF lcB F.code k (h.adv) = R) := hnx0
            have hin : Hid (GrIn F.code (h.adv)) := hin0
            clear hnx0 hin0 eN
            rw [z] at ra
            clear z
            go_wp2_with (first
              | (go_at_call 36; (with_reducible refine (cLt _).mono ?_); rintro e w2 ⟨rfl, rfl⟩)
              | (refine wpList_puti rfl 3 _ _ rfl ⟨w.heap.size + 1, 2, none⟩ rfl (h.pc + 1) (by rw [← pc1 p0 p1]; rfl) (by kernel_rfl) _ x2 f2 ?_; intro W2 hW2; (have hr2 : Hid (Rn w W2 M h.adv) := by rw [hW2]; exact hr1.out.setP (h.pc + 1)); clear hW2 x2 f2))
            simp only [Act.put]
            go_roundw
            case rel => exact ⟨k, h.adv, by first | rfl | (rw [hkw]), by omega, hr2.out, hnx.out, hin.out, hh1.out, hh2.out⟩
            case measure => first | (simp [intOf]; done) | (simp [intOf]; omega)
          · have eN : loc1 word.apF h ⟨43, a, b, c, nn⟩ = { h with pc := b } := by simp [loc1, z]
            rw [eN] at hnx0 hin0
            have hnx : Hid (runG word.apF lcB F.code k ({ h with pc := b }) = R) := hnx0
            have hin : Hid (GrIn F.code ({ h with pc := b })) := hin0
            clear hnx0 hin0 eN
            generalize h.get a = v at *
            have hv : (v != 0) = true := by simpa using z
            clear z
            go_wp2_with (first
              | (go_at_call 36; (with_reducible refine (cLt _).mono ?_); rintro e w2 ⟨rfl, rfl⟩)
              | (refine wpList_puti rfl 3 _ _ rfl ⟨w.heap.size + 1, 2, none⟩ rfl (b) rfl (by kernel_rfl) _ x2 f2 ?_; intro W2 hW2; (have hr2 : Hid (Rn w W2 M { h with pc := b }) := by rw [hW2]; exact hr1.out.setP (b)); clear hW2 x2 f2))
            simp only [Act.put]
            go_roundw
            case rel => exact ⟨k, { h with pc := b }, by first | rfl | (rw [hkw]), by omega, hr2.out, hnx.out, hin.out, hh1.out, hh2.out⟩
            case measure => first | (simp [intOf]; done) | (simp [intOf]; omega)
        by_cases h44 : op = 44
        · subst h44
          have qa := ga (by omega)
          have ra := hg2.reg hl a (by omega) (by omega)
          have fa := hg2.fz (4 + a.toNat)
          have xa := ix8 (w.heap.size + 1) a (by omega) (by omega)
          have hr1 : Hid (Rn w V M h) := hV
          have x2 := hg2.c2
          have f2 := hg2.fz 2
          by_cases z : h.get a = 0
          · have hfin : Hid (R = h.end 4 1) := by
              show _ = _
              rw [← hnx0, show loc1 word.apF h ⟨44, a, b, c, nn⟩ = h.end 4 1 by simp [loc1, z]]
              exact runG_stop (fun q => absurd q.1 (by show ¬ ((4 : Int) = 1); decide)) k
            clear hnx0 hin0
            rw [z] at ra
            clear z
            have cE := rended_any h 4 1
            have hX := end_len h 4 1
            clear hz2
            go_wp2_with (first
              | (go_at_call 36; (with_reducible refine (cLt _).mono ?_); rintro e w2 ⟨rfl, rfl⟩)
              | (refine wpList_load_row rfl 35 _ rfl (w.heap.size + 1) rfl _ _ _ _ hg2 Tryd.underlying35 rfl (infoG hl) ?_)
              | (go_at_call 38; (with_reducible refine (cE _).mono ?_); rintro e W2 ⟨rfl, hb3⟩; (have hr2 : Hid (Rn w W2 M h) := hV.out.later hb3); (have hz2 := hr2.out.z))
              | (refine wpList_store_row rfl 35 _ _ rfl (w.heap.size + 2) (Gr.cells (h.end 4 1)).toArray rfl rfl _ _ hz2 (infoG hX) (sizeGG rfl hX) (oneG _) ?_))
            exact bodyPost_ret (results_g Tryd.results22 _ _ (w.heap.size + 2) (h.end 4 1) hX rfl (hz2.set _)) rfl ⟨by rw [hfin.out], below_setRowG hr2.out.b (by omega) _⟩
          · have eN : loc1 word.apF h ⟨44, a, b, c, nn⟩ = h.adv := by simp [loc1, z]
            rw [eN] at hnx0 hin0
            have hnx : Hid (runG word.apF lcB F.code k (h.adv) = R) := hnx0
            have hin : Hid (GrIn F.code (h.adv)) := hin0
            clear hnx0 hin0 eN
            generalize h.get a = v at *
            have hv : (v == 0) = false := by simpa using z
            clear z
            go_wp2_with (first
              | (go_at_call 36; (with_reducible refine (cLt _).mono ?_); rintro e w2 ⟨rfl, rfl⟩)
              | (refine wpList_puti rfl 3 _ _ rfl ⟨w.heap.size + 1, 2, none⟩ rfl (h.pc + 1) (by rw [← pc1 p0 p1]; rfl) (by kernel_rfl) _ x2 f2 ?_; intro W2 hW2; (have hr2 : Hid (Rn w W2 M h.adv) := by rw [hW2]; exact hr1.out.setP (h.pc + 1)); clear hW2 x2 f2))
            simp only [Act.put]
            go_roundw
            case rel => exact ⟨k, h.adv, by first | rfl | (rw [hkw]), by omega, hr2.out, hnx.out, hin.out, hh1.out, hh2.out⟩
            case measure => first | (simp [intOf]; done) | (simp [intOf]; omega)
        by_cases h45 : op = 45
        · subst h45
          have hfin : Hid (R = h.end 3 0) := by
            show _ = _
            rw [← hnx0, show loc1 word.apF h ⟨45, a, b, c, nn⟩ = h.end 3 0 by simp [loc1]]
            exact runG_stop (fun q => absurd q.1 (by show ¬ ((3 : Int) = 1); decide)) k
          clear hnx0 hin0
          have cE := rended_any h 3 0
          have hX := end_len h 3 0
          clear hz2
          go_wp2_with (first
            | (go_at_call 36; (with_reducible refine (cLt _).mono ?_); rintro e w2 ⟨rfl, rfl⟩)
            | (refine wpList_load_row rfl 35 _ rfl (w.heap.size + 1) rfl _ _ _ _ hg2 Tryd.underlying35 rfl (infoG hl) ?_)
            | (go_at_call 38; (with_reducible refine (cE _).mono ?_); rintro e W2 ⟨rfl, hb3⟩; (have hr2 : Hid (Rn w W2 M h) := hV.out.later hb3); (have hz2 := hr2.out.z))
            | (refine wpList_store_row rfl 35 _ _ rfl (w.heap.size + 2) (Gr.cells (h.end 3 0)).toArray rfl rfl _ _ hz2 (infoG hX) (sizeGG rfl hX) (oneG _) ?_))
          exact bodyPost_ret (results_g Tryd.results22 _ _ (w.heap.size + 2) (h.end 3 0) hX rfl (hz2.set _)) rfl ⟨by rw [hfin.out], below_setRowG hr2.out.b (by omega) _⟩
        have ok1 : 1 ≤ op ∧ op ≤ 36 := by omega
        have qa := ga (.inl ok1)
        have qb := gb (.inl ok1)
        have qc := gc ok1
        have e40 : (op == 40) = false := by simp; omega
        have e41 : (op == 41) = false := by simp; omega
        have e42 : (op == 42) = false := by simp; omega
        have e43 : (op == 43) = false := by simp; omega
        have e44 : (op == 44) = false := by simp; omega
        have d36 : decide (op ≤ 36) = true := decide_eq_true ok1.2
        have ra := hg2.reg hl a (by omega) (by omega)
        have fa := hg2.fz (4 + a.toNat)
        have xa := ix8 (w.heap.size + 1) a (by omega) (by omega)
        have rb := hg2.reg hl b (by omega) (by omega)
        have xb := ix8 (w.heap.size + 1) b (by omega) (by omega)
        have rc := hg2.reg hl c (by omega) (by omega)
        have xc := ix8 (w.heap.size + 1) c (by omega) (by omega)
        have eL : loc1 word.apF h ⟨op, a, b, c, nn⟩ = if (word.apF op (h.get b) (h.get c)).2 = 20 then h.end 4 2 else if (word.apF op (h.get b) (h.get c)).2 = 21 then h.end 4 3 else (h.set a (word.apF op (h.get b) (h.get c)).1).adv := by
          simp [loc1, h40, h41, h42, h43, h44, h45]
        rw [eL] at hnx0 hin0
        by_cases h15 : op ≤ 15
        · have d15 : decide (op ≤ 15) = true := decide_eq_true h15
          have hA := fun wx => (word.apF_one (a := h.get b) ok1.1 h15 (hgb b.toNat) 0 (h.get c) wx)
          have hy := (hA w).2.2.2
          have cA' : ∀ wx, Calls Tryd.prog 37 #[.int .i64 op, .int .i64 (h.get b), .int .i64 0] wx fun e w' => e = .returned (.tuple #[.int .i64 (word.apF op (h.get b) (h.get c)).1, .int .i64 (word.apF op (h.get b) (h.get c)).2]) ∧ Below wx.heap.size wx w' := fun wx => ((hA wx).2.1).mono fun e w' ⟨he, hw⟩ => ⟨he, by rw [hw]; exact Below.refl _ _⟩
          rw [hy] at hnx0 hin0 cA'
          simp only [show ¬ ((0 : Int) = 20) by decide, show ¬ ((0 : Int) = 21) by decide, if_false] at hnx0 hin0
          clear hA hy eL
          generalize (word.apF op (h.get b) (h.get c)).1 = x at *
          have hnx : Hid (runG word.apF lcB F.code k ((h.set a x).adv) = R) := hnx0
          have hin : Hid (GrIn F.code ((h.set a x).adv)) := hin0
          generalize h.get b = vb at *
          generalize h.get c = vc at *
          clear hnx0 hin0 h40 h41 h42 h43 h44 h45 ok1 h15 ho' ga gb gc hgb
          go_wp2_with (go_at_call 36; (with_reducible refine (cLt _).mono ?_); rintro e w2 ⟨rfl, rfl⟩)
          have s0 := fun s => bey_cell i0 s
          have s1 := fun s => bey_cell i1 s
          have s2 := fun s => bey_cell i2 s
          have s3 := fun s => bey_cell i3 s
          have sb := fun s => bey_cell rb s
          have sc := fun s => bey_cell rc s
          have hne := bey_some w2
          refine wp_region_cls (Bey w2) (by kernel_rfl) (by kernel_rfl) (bey_drew w2) ?_
          repeat (go_big_quiet_step ((go_at_call 37; exact calls_bey (cA' _))))
          refine wpQuiet_nil ?_
          intro _ hw'
          obtain ⟨sq, hw''⟩ := hw'
          subst hw''
          have hV2 : Hid (Rn w sq.w M h) := hV.out.later sq.h
          obtain ⟨j0, j1, j2, j3, j4⟩ : BoxI sq.w IB ⟨op, a, b, c, nn⟩ := BoxI.later (x := ⟨op, a, b, c, nn⟩) ⟨i0, i1, i2, i3, i4⟩ sq.h
          clear s0 s1 s2 s3 sb sc hne i0 i1 i2 i3 i4 ra rb rc fa cA' hg2 hz2
          have ra2 := hV2.out.gb.reg hl a (by omega) (by omega)
          have fa2 := hV2.out.gb.fz (4 + a.toNat)
          have hg2 := hV2.out.gb
          have hz2 := hV2.out.z
          generalize sq.w = V2 at *
          go_wp2_with (first
            | (refine wpList_puti rfl 2 _ _ rfl ⟨w.heap.size + 1, 4 + a.toNat, none⟩ rfl (x) rfl (by kernel_rfl) _ ra2 fa2 ?_; intro W1 hW1; (have hr1 : Hid (Rn w W1 M (h.set a x)) := by rw [hW1]; exact hV2.out.setR a (x)); (have x2 := hr1.out.gb.c2); (have f2 := hr1.out.gb.fz 2); clear hW1 ra2 fa2)
            | (refine wpList_puti rfl 3 _ _ rfl ⟨w.heap.size + 1, 2, none⟩ rfl (h.pc + 1) (by rw [← pc1 p0 p1]; rfl) (by kernel_rfl) _ x2 f2 ?_; intro W2 hW2; (have hr2 : Hid (Rn w W2 M (h.set a x).adv) := by rw [hW2]; exact hr1.out.setP (h.pc + 1)); clear hW2 x2 f2))
          simp only [Act.put]
          go_roundw
          case rel => exact ⟨k, ((h.set a x).adv), by first | rfl | (rw [hkw]), by omega, hr2.out, hnx.out, hin.out, hh1.out, hh2.out⟩
          case measure => first | (simp [intOf]; done) | (simp [intOf]; omega)
        · have d15 : decide (op ≤ 15) = false := decide_eq_false h15
          have hA := fun wx => (word.apF_two (k := op) (a := h.get b) (b := h.get c) (by omega) ok1.2 (hgb b.toNat) (hgb c.toNat) wx)
          have cA' : ∀ wx, Calls Tryd.prog 37 #[.int .i64 op, .int .i64 (h.get b), .int .i64 (h.get c)] wx fun e w' => e = .returned (.tuple #[.int .i64 (word.apF op (h.get b) (h.get c)).1, .int .i64 (word.apF op (h.get b) (h.get c)).2]) ∧ Below wx.heap.size wx w' := fun wx => ((hA wx).2.1).mono fun e w' ⟨he, hw⟩ => ⟨he, by rw [hw]; exact Below.refl _ _⟩
          clear hA eL
          generalize (word.apF op (h.get b) (h.get c)) = r at *
          obtain ⟨x, y⟩ := r
          simp only at cA' hnx0 hin0
          generalize h.get b = vb at *
          generalize h.get c = vc at *
          clear h40 h41 h42 h43 h44 h45 ok1 h15 ho' ga gb gc hgb
          by_cases y20 : y = 20
          · subst y20
            rw [if_pos rfl] at hnx0
            have hfin : Hid (R = h.end 4 2) := by
              show _ = _
              rw [← hnx0]
              exact runG_stop (fun q => absurd q.1 (by show ¬ ((4 : Int) = 1); decide)) k
            clear hnx0 hin0
            go_wp2_with (go_at_call 36; (with_reducible refine (cLt _).mono ?_); rintro e w2 ⟨rfl, rfl⟩)
            have s0 := fun s => bey_cell i0 s
            have s1 := fun s => bey_cell i1 s
            have s2 := fun s => bey_cell i2 s
            have s3 := fun s => bey_cell i3 s
            have sb := fun s => bey_cell rb s
            have sc := fun s => bey_cell rc s
            have hne := bey_some w2
            refine wp_region_cls (Bey w2) (by kernel_rfl) (by kernel_rfl) (bey_drew w2) ?_
            repeat (go_big_quiet_step ((go_at_call 37; exact calls_bey (cA' _))))
            refine wpQuiet_nil ?_
            intro _ hw'
            obtain ⟨sq, hw''⟩ := hw'
            subst hw''
            have hV2 : Hid (Rn w sq.w M h) := hV.out.later sq.h
            obtain ⟨j0, j1, j2, j3, j4⟩ : BoxI sq.w IB ⟨op, a, b, c, nn⟩ := BoxI.later (x := ⟨op, a, b, c, nn⟩) ⟨i0, i1, i2, i3, i4⟩ sq.h
            clear s0 s1 s2 s3 sb sc hne i0 i1 i2 i3 i4 ra rb rc fa cA' hg2 hz2
            have ra2 := hV2.out.gb.reg hl a (by omega) (by omega)
            have fa2 := hV2.out.gb.fz (4 + a.toNat)
            have hg2 := hV2.out.gb
            have hz2 := hV2.out.z
            generalize sq.w = V2 at *
            clear ra2 fa2
            have cE := rended_any h 4 2
            have hX := end_len h 4 2
            go_wp2_with (first
              | (go_at_call 36; (with_reducible refine (cLt _).mono ?_); rintro e w2 ⟨rfl, rfl⟩)
              | (refine wpList_load_row rfl 35 _ rfl (w.heap.size + 1) rfl _ _ _ _ hg2 Tryd.underlying35 rfl (infoG hl) ?_)
              | (go_at_call 38; (with_reducible refine (cE _).mono ?_); rintro e W2 ⟨rfl, hb3⟩; (have hr2 : Hid (Rn w W2 M h) := hV2.out.later hb3); (have hz2 := hr2.out.z))
              | (refine wpList_store_row rfl 35 _ _ rfl (w.heap.size + 2) (Gr.cells (h.end 4 2)).toArray rfl rfl _ _ hz2 (infoG hX) (sizeGG rfl hX) (oneG _) ?_))
            exact bodyPost_ret (results_g Tryd.results22 _ _ (w.heap.size + 2) (h.end 4 2) hX rfl (hz2.set _)) rfl ⟨by rw [hfin.out], below_setRowG hr2.out.b (by omega) _⟩
          · rw [if_neg y20] at hnx0 hin0
            have e20 : (y == 20) = false := by simpa using y20
            by_cases y21 : y = 21
            · subst y21
              rw [if_pos rfl] at hnx0
              have hfin : Hid (R = h.end 4 3) := by
                show _ = _
                rw [← hnx0]
                exact runG_stop (fun q => absurd q.1 (by show ¬ ((4 : Int) = 1); decide)) k
              clear hnx0 hin0 y20
              go_wp2_with (go_at_call 36; (with_reducible refine (cLt _).mono ?_); rintro e w2 ⟨rfl, rfl⟩)
              have s0 := fun s => bey_cell i0 s
              have s1 := fun s => bey_cell i1 s
              have s2 := fun s => bey_cell i2 s
              have s3 := fun s => bey_cell i3 s
              have sb := fun s => bey_cell rb s
              have sc := fun s => bey_cell rc s
              have hne := bey_some w2
              refine wp_region_cls (Bey w2) (by kernel_rfl) (by kernel_rfl) (bey_drew w2) ?_
              repeat (go_big_quiet_step ((go_at_call 37; exact calls_bey (cA' _))))
              refine wpQuiet_nil ?_
              intro _ hw'
              obtain ⟨sq, hw''⟩ := hw'
              subst hw''
              have hV2 : Hid (Rn w sq.w M h) := hV.out.later sq.h
              obtain ⟨j0, j1, j2, j3, j4⟩ : BoxI sq.w IB ⟨op, a, b, c, nn⟩ := BoxI.later (x := ⟨op, a, b, c, nn⟩) ⟨i0, i1, i2, i3, i4⟩ sq.h
              clear s0 s1 s2 s3 sb sc hne i0 i1 i2 i3 i4 ra rb rc fa cA' hg2 hz2
              have ra2 := hV2.out.gb.reg hl a (by omega) (by omega)
              have fa2 := hV2.out.gb.fz (4 + a.toNat)
              have hg2 := hV2.out.gb
              have hz2 := hV2.out.z
              generalize sq.w = V2 at *
              clear ra2 fa2
              have cE := rended_any h 4 3
              have hX := end_len h 4 3
              go_wp2_with (first
                | (go_at_call 36; (with_reducible refine (cLt _).mono ?_); rintro e w2 ⟨rfl, rfl⟩)
                | (refine wpList_load_row rfl 35 _ rfl (w.heap.size + 1) rfl _ _ _ _ hg2 Tryd.underlying35 rfl (infoG hl) ?_)
                | (go_at_call 38; (with_reducible refine (cE _).mono ?_); rintro e W2 ⟨rfl, hb3⟩; (have hr2 : Hid (Rn w W2 M h) := hV2.out.later hb3); (have hz2 := hr2.out.z))
                | (refine wpList_store_row rfl 35 _ _ rfl (w.heap.size + 2) (Gr.cells (h.end 4 3)).toArray rfl rfl _ _ hz2 (infoG hX) (sizeGG rfl hX) (oneG _) ?_))
              exact bodyPost_ret (results_g Tryd.results22 _ _ (w.heap.size + 2) (h.end 4 3) hX rfl (hz2.set _)) rfl ⟨by rw [hfin.out], below_setRowG hr2.out.b (by omega) _⟩
            · rw [if_neg y21] at hnx0 hin0
              have e21 : (y == 21) = false := by simpa using y21
              have hnx : Hid (runG word.apF lcB F.code k ((h.set a x).adv) = R) := hnx0
              have hin : Hid (GrIn F.code ((h.set a x).adv)) := hin0
              clear hnx0 hin0 y20 y21
              go_wp2_with (go_at_call 36; (with_reducible refine (cLt _).mono ?_); rintro e w2 ⟨rfl, rfl⟩)
              have s0 := fun s => bey_cell i0 s
              have s1 := fun s => bey_cell i1 s
              have s2 := fun s => bey_cell i2 s
              have s3 := fun s => bey_cell i3 s
              have sb := fun s => bey_cell rb s
              have sc := fun s => bey_cell rc s
              have hne := bey_some w2
              refine wp_region_cls (Bey w2) (by kernel_rfl) (by kernel_rfl) (bey_drew w2) ?_
              repeat (go_big_quiet_step ((go_at_call 37; exact calls_bey (cA' _))))
              refine wpQuiet_nil ?_
              intro _ hw'
              obtain ⟨sq, hw''⟩ := hw'
              subst hw''
              have hV2 : Hid (Rn w sq.w M h) := hV.out.later sq.h
              obtain ⟨j0, j1, j2, j3, j4⟩ : BoxI sq.w IB ⟨op, a, b, c, nn⟩ := BoxI.later (x := ⟨op, a, b, c, nn⟩) ⟨i0, i1, i2, i3, i4⟩ sq.h
              clear s0 s1 s2 s3 sb sc hne i0 i1 i2 i3 i4 ra rb rc fa cA' hg2 hz2
              have ra2 := hV2.out.gb.reg hl a (by omega) (by omega)
              have fa2 := hV2.out.gb.fz (4 + a.toNat)
              have hg2 := hV2.out.gb
              have hz2 := hV2.out.z
              generalize sq.w = V2 at *
              go_wp2_with (first
                | (refine wpList_puti rfl 2 _ _ rfl ⟨w.heap.size + 1, 4 + a.toNat, none⟩ rfl (x) rfl (by kernel_rfl) _ ra2 fa2 ?_; intro W1 hW1; (have hr1 : Hid (Rn w W1 M (h.set a x)) := by rw [hW1]; exact hV2.out.setR a (x)); (have x2 := hr1.out.gb.c2); (have f2 := hr1.out.gb.fz 2); clear hW1 ra2 fa2)
                | (refine wpList_puti rfl 3 _ _ rfl ⟨w.heap.size + 1, 2, none⟩ rfl (h.pc + 1) (by rw [← pc1 p0 p1]; rfl) (by kernel_rfl) _ x2 f2 ?_; intro W2 hW2; (have hr2 : Hid (Rn w W2 M (h.set a x).adv) := by rw [hW2]; exact hr1.out.setP (h.pc + 1)); clear hW2 x2 f2))
              simp only [Act.put]
              go_roundw
              case rel => exact ⟨k, ((h.set a x).adv), by first | rfl | (rw [hkw]), by omega, hr2.out, hnx.out, hin.out, hh1.out, hh2.out⟩
              case measure => first | (simp [intOf]; done) | (simp [intOf]; omega)
    · have cLt : ∀ wx, Calls Tryd.prog 36 #[.int .i64 i.op] wx fun e w' => e = .returned (.bool false) ∧ w' = wx := fun wx => by have := cL wx; rw [loc_lcB, show lcB i.op = false from decide_eq_false c2] at this; exact this
      have hfin : Hid (R = h) := by show _ = _; rw [← heH.out]; exact fStop c2 k
      have hr2 : Hid (Rn w V M h) := hV
      clear cL fStop fZero fStep lin gi hgb c2
      go_wp2_with (first
        | (go_at_call 36; (with_reducible refine (cLt _).mono ?_); rintro e w2 ⟨rfl, rfl⟩)
        | (refine wpList_load_row rfl 35 _ rfl (w.heap.size + 1) rfl _ _ _ _ hg2 Tryd.underlying35 rfl (infoG hl) ?_)
        | (refine wpList_store_row rfl 35 _ _ rfl (w.heap.size + 2) (Gr.cells h).toArray rfl rfl _ _ hz2 (infoG hl) (sizeGG rfl hl) (oneG _) ?_))
      exact bodyPost_ret (results_g Tryd.results22 _ _ (w.heap.size + 2) h hl rfl (hz2.set _)) rfl ⟨by rw [hfin.out], below_setRowG hr2.out.b (by omega) _⟩
end Go.Proofs.YtofeohhnfnnifaaDoor.pg
