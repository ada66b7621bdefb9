/- The document's May. -/
import Derived.Test.YtlcljdldhajkiaaDoorM22
import Derived.BigQuiet
import Derived.Test.YtlcljdldhajkiaaDoorM19
namespace Go.Proofs.YtlcljdldhajkiaaDoor.pg
open Go.ChangeShapes Go.WideShapes Go.ChangeAt Go.RowKit Go.Shelf
set_option linter.unusedVariables false
set_option linter.unusedSimpArgs false
set_option maxRecDepth 100000
structure RmW (w W : World) (M : MPr) (TB DB n : Nat) (td dn : Nat → Bool) (X : List Int) (pa : Option Addr) (pc : Nat) (O : Nat → Int) (oa : Option Addr) (oc : Nat) : Prop where
  b : Below w.heap.size w W
  p : BoxP W w.heap.size M
  t : Bl W (w.heap.size + 1) TB n n td
  d : Bl W (w.heap.size + 1) DB n n dn
  ne : TB ≠ DB
  x : Rows W 1 pa pc (X.map chCells)
  xn : ∀ b ∈ blk pa, b ≠ TB ∧ b ≠ DB
  o : Rows W 3 oa oc ((lstO O 56).map AcQ.cells)
  on : ∀ b ∈ blk oa, b ≠ TB ∧ b ≠ DB
section
variable {w W W' : World} {M : MPr} {TB DB n : Nat} {td dn : Nat → Bool} {X : List Int} {pa : Option Addr} {pc : Nat} {O : Nat → Int} {oa : Option Addr} {oc : Nat}
theorem RmW.later (h : RmW w W M TB DB n td dn X pa pc O oa oc) (hb : Below W.heap.size W W') : RmW w W' M TB DB n td dn X pa pc O oa oc :=
  ⟨bthen h.b hb, h.p.later hb, h.t.later hb, h.d.later hb, h.ne, h.x.later hb, h.xn, h.o.later hb, h.on⟩
theorem RmW.grow {O' : Nat → Int} {oa' : Option Addr} {oc' : Nat} (h : RmW w W M TB DB n td dn X pa pc O oa oc) (ha : AcS W (lstO O' 56) oa' oc' W') : RmW w W' M TB DB n td dn X pa pc O' oa' oc' :=
  have hb := ha.be
  ⟨bthen h.b hb, h.p.later hb, h.t.later hb, h.d.later hb, h.ne, h.x.later hb, h.xn, ha.rows, fun b q => by have h1 := (blk_lt ha.ow b q).1; have h2 := h.t.lt; have h3 := h.d.lt; exact ⟨by omega, by omega⟩⟩
theorem RmW.fresh {X' : List Int} {pa' : Option Addr} {pc' : Nat} (h : RmW w W M TB DB n td dn X pa pc O oa oc) (hb : Below W.heap.size W W') (hx : Rows W' 1 pa' pc' (X'.map chCells)) (hk : ∀ b ∈ blk pa', W.heap.size ≤ b ∧ b < W'.heap.size) : RmW w W' M TB DB n td dn X' pa' pc' O oa oc :=
  ⟨bthen h.b hb, h.p.later hb, h.t.later hb, h.d.later hb, h.ne, hx, fun b q => by have h1 := (hk b q).1; have h2 := h.t.lt; have h3 := h.d.lt; exact ⟨by omega, by omega⟩, h.o.later hb, h.on⟩
theorem RmW.cellk {B j : Nat} {v : Value} (h : RmW w W M TB DB n td dn X pa pc O oa oc) (hB : w.heap.size + 1 ≤ B) (hx : ∀ b ∈ blk pa, b ≠ B) (ho : ∀ b ∈ blk oa, b ≠ B) : Below w.heap.size w (W.setCell ⟨B, j, none⟩ v) ∧ BoxP (W.setCell ⟨B, j, none⟩ v) w.heap.size M ∧ Rows (W.setCell ⟨B, j, none⟩ v) 1 pa pc (X.map chCells) ∧ Rows (W.setCell ⟨B, j, none⟩ v) 3 oa oc ((lstO O 56).map AcQ.cells) := by
  have hs : ∀ b, b ≠ B → (W.setCell ⟨B, j, none⟩ v).heap[b]? = W.heap[b]? := fun b q => heap_setCell_other W ⟨B, j, none⟩ b _ q
  have hz : W.heap.size ≤ (W.setCell ⟨B, j, none⟩ v).heap.size := ((Below.refl 0 W).setCell (p := ⟨B, j, none⟩) (Nat.zero_le _) v).size
  have hp := hs w.heap.size (by omega)
  exact ⟨h.b.setCell (p := ⟨B, j, none⟩) (by show w.heap.size ≤ B; omega) v, ⟨cell_keepQ h.p.1 hp, cell_keepQ h.p.2.1 hp, cell_keepQ h.p.2.2.1 hp, cell_keepQ h.p.2.2.2 hp⟩, rows_keepF h.x hz (fun b q => hs b (hx b q)), rows_keepF h.o hz (fun b q => hs b (ho b q))⟩
theorem RmW.setT (h : RmW w W M TB DB n td dn X pa pc O oa oc) {b : Nat} (hb : b < n) : RmW w (W.setCell ⟨TB, b, none⟩ (.bool true)) M TB DB n (fun c => if c = b then true else td c) dn X pa pc O oa oc := by
  obtain ⟨h1, h2, h3, h4⟩ := h.cellk (B := TB) (j := b) (v := .bool true) h.t.lo (fun c q => (h.xn c q).1) (fun c q => (h.on c q).1)
  exact ⟨h1, h2, h.t.set hb true, h.d.keep (heap_setCell_other W ⟨TB, b, none⟩ DB _ (Ne.symm h.ne)), h.ne, h3, h.xn, h4, h.on⟩
theorem RmW.setD (h : RmW w W M TB DB n td dn X pa pc O oa oc) {b : Nat} (hb : b < n) : RmW w (W.setCell ⟨DB, b, none⟩ (.bool true)) M TB DB n td (fun c => if c = b then true else dn c) X pa pc O oa oc := by
  obtain ⟨h1, h2, h3, h4⟩ := h.cellk (B := DB) (j := b) (v := .bool true) h.d.lo (fun c q => (h.xn c q).2) (fun c q => (h.on c q).2)
  exact ⟨h1, h2, h.t.keep (heap_setCell_other W ⟨DB, b, none⟩ TB _ h.ne), h.d.set hb true, h.ne, h3, h.xn, h4, h.on⟩
end
set_option maxHeartbeats 8000000 in
theorem rmay_any (M : MPr) (f pc : Nat) (w : World) (hM : M.lies w) (F : MFn) (hFi : M.fns[f]? = some F) (hok : (chk insP M.pr).1 = 0) (hpc : pc < F.code.length) :
    Calls Tryd.prog 12 #[M.val, .int .i64 (f : Int), .int .i64 (pc : Int)] w fun e w' => ∃ R O va vc, e = .returned (.slice va (lstO O 56).length vc) ∧ LeastP M.pr.fns f pc R ∧ MayO M.pr.fns R O ∧ Rows w' 3 va vc ((lstO O 56).map AcQ.cells) ∧ Below w.heap.size w w' := by
  obtain ⟨iB, hiB', hzB', hsB', hbB'⟩ := info_q infoBl
  have hiB : Hid (Tryd.prog.info? 4 = some iB) := hiB'
  have hzB : Hid _ := hzB'
  have hsB : Hid _ := hsB'
  have hbB : Hid _ := hbB'
  clear hiB' hzB' hsB' hbB'
  have huA : Hid (Tryd.prog.underlying 53 = _) := Tryd.underlying53
  have hMH : Hid (M.lies w) := hM
  have hokH : Hid ((chk insP M.pr).1 = 0) := hok
  have hn8 : M.fns.length ≤ 8 := by (have := (sizes_ok (sizes_of hok)).2.2.2.2; have e : M.pr.fns.length = M.fns.length := List.length_map _; omega)
  have hnE : Hid (M.pr.fns.length = M.fns.length) := List.length_map _
  have hm : ∀ F ∈ M.fns, F.fn ∈ M.pr.fns := fun F h => List.mem_map.mpr ⟨F, h, rfl⟩
  have hfl : Hid (∀ F ∈ M.fns, FlowF F.fn) := fun F h => flow_of hok F.fn (hm F h)
  have hch : Hid (∀ F ∈ M.fns, ∀ i ∈ F.code, TchR F.fn i ∧ (i.op = 62 → 0 ≤ i.b ∧ i.b < M.fns.length)) := fun F h i hi => ⟨tchR_of hok (hm F h) hi, fun q => by have := sp_lt hok (hm F h) (i := i) hi q; rw [hnE.out] at this; exact this⟩
  have hFn : ∀ (g : Nat) (F : MFn), M.fns[g]? = some F → M.pr.fns[g]? = some F.fn := fun g F h => by (show (M.fns.map MFn.fn)[g]? = _; rw [List.getElem?_map, h]; rfl)
  have hFnH : Hid (∀ (g : Nat) (F : MFn), M.fns[g]? = some F → M.pr.fns[g]? = some F.fn) := hFn
  have cR : Hid (∀ V, Below w.heap.size w V → ∀ (g k : Nat) (F : MFn), M.fns[g]? = some F → k < F.code.length → Calls Tryd.prog 32 #[M.val, .int .i64 (g : Int), .int .i64 (k : Int)] V _) := fun V hV g k F hF hk => rreach_own M g k V (hMH.out.later hV) F (by rw [Int.toNat_natCast]; exact hF) (hfl.out F (List.mem_of_getElem? hF)) (by omega) hk
  have cT : Hid (∀ V, Below w.heap.size w V → ∀ (g k : Nat) (F : MFn), M.fns[g]? = some F → k < F.code.length → Calls Tryd.prog 11 #[M.val, .int .i64 (g : Int), .int .i64 (k : Int)] V _) := fun V hV g k F hF hk => rtouches_any M g k V (hMH.out.later hV) F hF hk (hfl.out F (List.mem_of_getElem? hF)).l64 ((hch.out F (List.mem_of_getElem? hF) _ (List.mem_of_getElem? (by have := (insAt_mem (code := F.code) (pc := (k : Int)) (by omega) (by omega)).1; rw [Int.toNat_natCast] at this; exact this))).1)
  have bP := boxP_new w M
  have hbH : Hid (Below w.heap.size w (w.alloc (objP M)) ∧ BoxP (w.alloc (objP M)) w.heap.size M) := ⟨boxed w (objP M), bP⟩
  have hp0 : Hid (pc < F.code.length ∧ M.fns[f]? = some F) := ⟨hpc, hFi⟩
  clear hM hok hm hFn hpc hFi
  go_enter Tryd.func12, Tryd.ntmps12
  obtain ⟨p0, p1, p2, p3⟩ := bP
  go_upto_region 3 with (refine wpList_mk _ rfl _ _ 79 rfl 4 iB _ Tryd.underlying79 hiB.out hzB.out rfl hsB.out M.fns.length rfl rfl (by rw [hbB.out]; omega) (by omega) ?_; intro w2 hn2 hb2 hs2)
  have h2 : Hid (Below w.heap.size w w2 ∧ BoxP w2 w.heap.size M ∧ Bl w2 (w.heap.size + 1) (w.heap.size + 1) M.fns.length M.fns.length (fun _ => false) ∧ w2.heap.size = w.heap.size + 1 + 1) := by
    rw [World.size_alloc] at hn2 hs2
    exact ⟨bthen hbH.out.1 hb2, hbH.out.2.later hb2, bl_new hn2 (by omega) (by omega), by omega⟩
  clear hn2 hb2 hs2 p0 p1 p2 p3
  try simp only [World.size_alloc]
  obtain ⟨p0, p1, p2, p3⟩ := h2.out.2.1
  go_upto_region 4 with (refine wpList_mk _ rfl _ _ 79 rfl 4 iB _ Tryd.underlying79 hiB.out hzB.out rfl hsB.out M.fns.length rfl rfl (by rw [hbB.out]; omega) (by omega) ?_; intro w3 hn3 hb3 hs3)
  have h3 : Hid (Below w.heap.size w w3 ∧ BoxP w3 w.heap.size M ∧ Bl w3 (w.heap.size + 1) (w.heap.size + 1) M.fns.length M.fns.length (fun _ => false) ∧ Bl w3 (w.heap.size + 1) (w.heap.size + 1 + 1) M.fns.length M.fns.length (fun _ => false) ∧ w.heap.size + 1 + 1 < w3.heap.size) := by
    rw [h2.out.2.2.2] at hn3 hs3
    exact ⟨bthen h2.out.1 hb3, h2.out.2.1.later hb3, h2.out.2.2.1.later hb3, bl_new hn3 (by omega) (by omega), by omega⟩
  have hs22 := h2.out.2.2.2
  clear hn3 hb3 hs3 p0 p1 p2 p3 h2
  try simp only [hs22]
  clear hs22
  obtain ⟨p0, p1, p2, p3⟩ := h3.out.2.1
  have xR := cR.out w3 h3.out.1 f pc F hp0.out.2 hp0.out.1
  go_upto_region 6 with (go_at_call 32; (with_reducible refine xR.mono ?_); rintro e w4 ⟨S, pa, pc4, rfl, hS, hSo, hSr, hb4, hbk⟩)
  have h4 : Hid (RmW w w4 M (w.heap.size + 1) (w.heap.size + 1 + 1) M.fns.length (fun _ => false) (fun _ => false) (lst S F.code.length) pa pc4 zO none 0 ∧ RmJ M.pr.fns f pc (fun _ _ => false) f F.fn S zO (fun _ => false) (fun _ => false) 0) := by
    refine ⟨⟨bthen h3.out.1 hb4, h3.out.2.1.later hb4, h3.out.2.2.1.later hb4, h3.out.2.2.2.1.later hb4, by omega, hSr, fun b q => ?_, by rw [lst_zO]; exact rows_nilF _ _, fun b q => by simp [blk] at q⟩, RmJ.first (hFnH.out f F hp0.out.2) hS hSo⟩
    have := (hbk b q).1
    have := h3.out.2.2.2.2
    omega
  have hF0 : Hid (M.fns[f]? = some F) := hp0.out.2
  clear xR hS hSo hSr hb4 hbk h3 p0 p1 p2 p3 hp0
  obtain ⟨TB, hTB⟩ : ∃ TB, w.heap.size + 1 = TB := ⟨_, rfl⟩
  obtain ⟨DB, hDB⟩ : ∃ DB, w.heap.size + 1 + 1 = DB := ⟨_, rfl⟩
  rw [hDB, hTB] at h4
  rw [hDB, hTB]
  clear hDB hTB
  go_loopw [7, 10, 11] (fun o x g wr => ∃ (O : Nat → Int) (P : Nat → Nat → Bool) (S : Nat → Bool) (F : MFn) (fn : Nat) (td dn : Nat → Bool) (oa pa : Option Addr) (oc pc4 : Nat), o = .slice oa (lstO O 56).length oc ∧ x = .slice pa (lst S F.code.length).length pc4 ∧ g = .int .i64 (fn : Int) ∧ Hid (RmW w wr M TB DB M.fns.length td dn (lst S F.code.length) pa pc4 O oa oc ∧ RmJ M.pr.fns f pc P fn F.fn S O td dn 0 ∧ M.fns[fn]? = some F ∧ ∀ j, O j = 0 ∨ O j = 1 ∨ O j = 2)) (fun _ _ _ wr => missB DB M.fns.length wr)
  case atStart => exact ⟨zO, _, S, F, f, _, _, none, pa, 0, pc4, by rw [lst_zO]; rfl, rfl, rfl, h4.out.1, h4.out.2, hF0.out, fun j => .inl rfl⟩
  case round =>
    clear h4 hF0
    obtain ⟨O, P, S, F, fn, td, dn, oa, pa, oc, pc4, rfl, rfl, rfl, hs0⟩ := hrel
    have hms : Hid (missB DB M.fns.length wr = miss dn M.fns.length) := missB_is hs0.out.1.d
    have hFi : Hid (M.fns[fn]? = some F) := hs0.out.2.2.1
    have hflF : Hid (FlowF F.fn) := hfl.out F (List.mem_of_getElem? hFi.out)
    have hl64 : F.code.length ≤ 64 := hflF.out.l64
    have hXl : (lst S F.code.length).length ≤ 64 := by (have := lst_len S F.code.length; omega)
    obtain ⟨X, hX⟩ : ∃ X, Hid (lst S F.code.length = X) := ⟨_, rfl⟩
    have hs : Hid (RmW w wr M TB DB M.fns.length td dn X pa pc4 O oa oc ∧ RmJ M.pr.fns f pc P fn F.fn S O td dn 0 ∧ ∀ j, O j = 0 ∨ O j = 1 ∨ O j = 2) := (by (rw [← hX.out]; exact ⟨hs0.out.1, hs0.out.2.1, hs0.out.2.2.2⟩))
    simp only [hX.out] at hXl ⊢
    clear hs0
    go_wp2_with fail
    go_loopw [7, 12] (fun o u wr => ∃ (i : Nat) (O : Nat → Int) (td : Nat → Bool) (oa : Option Addr) (oc : Nat), i ≤ X.length ∧ u = .int .i64 (i : Int) ∧ o = .slice oa (lstO O 56).length oc ∧ Hid (RmW w wr M TB DB M.fns.length td dn X pa pc4 O oa oc ∧ RmJ M.pr.fns f pc P fn F.fn S O td dn i ∧ ∀ j, O j = 0 ∨ O j = 1 ∨ O j = 2)) (fun _ u _ => X.length - (intOf u).toNat)
    case atStart => exact ⟨0, O, td, oa, oc, Nat.zero_le _, rfl, rfl, hs.out⟩
    case round =>
      clear hs
      obtain ⟨i, O, td, oa, oc, hi, rfl, rfl, hs⟩ := hrel
      by_cases hlt : i < X.length
      · obtain ⟨x, hx, hxm⟩ := get_lt X i hlt
        obtain ⟨k, hkl, hSk, rfl⟩ := (lst_mem S x F.code.length).mp (hX.out.symm ▸ hxm)
        have hiI : (i : Int) < X.length := by omega
        have hxk : Hid (X[i]? = some (k : Int) ∧ k < F.code.length ∧ S k = true) := ⟨hx, hkl, hSk⟩
        obtain ⟨lb, lo, hix, hlb, lcel⟩ := ch_ix hs.out.1.x i (k : Int) hx
        clear hx hxm hSk
        go_upto_region 9 with fail
        have hH : Below wr.heap.size wr wr.drew := bey_drew wr
        have hPc := hs.out.1.p
        have hrP : ∀ w', Below wr.heap.size wr w' → w'.rangeAt w.heap.size 0 ([.slice M.va M.vars.length M.vcap, .int .i64 M.locks, .slice M.cha M.chans.length M.chcap, .slice M.fa M.fns.length M.fcap] : List Value) := fun w' h' j v hj => by
          match j, hj with
          | 0, hj => cases hj; exact cell_later h' hPc.1
          | 1, hj => cases hj; exact cell_later h' hPc.2.1
          | 2, hj => cases hj; exact cell_later h' hPc.2.2.1
          | 3, hj => cases hj; exact cell_later h' hPc.2.2.2
        refine wp_region_held_drew (S := fun w' => Below wr.heap.size wr w') (by kernel_rfl) hH (fun _ => ?_)
        refine reg_load (i := 0) rfl (by kernel_rfl) (by kernel_rfl) (by kernel_rfl) (fun _ _ _ _ h => h) rfl 26 _ rfl w.heap.size 0 rfl [.slice M.va M.vars.length M.vcap, .int .i64 M.locks, .slice M.cha M.chans.length M.chcap, .slice M.fa M.fns.length M.fcap] _ hrP Tryd.underlying26 rfl (by kernel_rfl) hH ?_
        simp only [Act.put, List.getElem_toArray, List.getElem_cons_succ, List.getElem_cons_zero, List.setIfInBounds_toArray, List.set_cons_zero, List.set_cons_succ]
        refine reg_move (i := 1) rfl (by kernel_rfl) (by kernel_rfl) (by kernel_rfl) (fun _ _ _ _ h => h) rfl (.int .i64 (fn : Int)) (fun _ => by kernel_rfl) hH ?_
        simp only [Act.put, List.getElem_toArray, List.getElem_cons_succ, List.getElem_cons_zero, List.setIfInBounds_toArray, List.set_cons_zero, List.set_cons_succ]
        refine reg_move (i := 2) rfl (by kernel_rfl) (by kernel_rfl) (by kernel_rfl) (fun _ _ _ _ h => h) rfl (.slice pa X.length pc4) (fun _ => by kernel_rfl) hH ?_
        simp only [Act.put, List.getElem_toArray, List.getElem_cons_succ, List.getElem_cons_zero, List.setIfInBounds_toArray, List.set_cons_zero, List.set_cons_succ]
        refine reg_move (i := 3) rfl (by kernel_rfl) (by kernel_rfl) (by kernel_rfl) (fun _ _ _ _ h => h) rfl (.int .i64 (i : Int)) (fun _ => by kernel_rfl) hH ?_
        simp only [Act.put, List.getElem_toArray, List.getElem_cons_succ, List.getElem_cons_zero, List.setIfInBounds_toArray, List.set_cons_zero, List.set_cons_succ]
        refine reg_move (i := 4) rfl (by kernel_rfl) (by kernel_rfl) (by kernel_rfl) (fun _ _ _ _ h => h) rfl (.pointer (some ⟨lb, lo, none⟩)) (fun wx => by unfold execOp; exact run_valueF (hix wx)) hH ?_
        simp only [Act.put, List.getElem_toArray, List.getElem_cons_succ, List.getElem_cons_zero, List.setIfInBounds_toArray, List.set_cons_zero, List.set_cons_succ]
        refine reg_load1 (i := 5) rfl (by kernel_rfl) (by kernel_rfl) (by kernel_rfl) (fun _ _ _ _ h => h) rfl 3 _ rfl ⟨lb, lo, none⟩ rfl _ Tryd.underlying3 rfl (.int .i64 (k : Int)) (fun w' h' => cell_later h' lcel) hH ?_
        simp only [Act.put, List.getElem_toArray, List.getElem_cons_succ, List.getElem_cons_zero, List.setIfInBounds_toArray, List.set_cons_zero, List.set_cons_succ]
        refine reg_call3F (i := 6) (by kernel_rfl) rfl rfl 11 _ _ _ _ _ _ rfl M.val (.int .i64 (fn : Int)) (.int .i64 (k : Int)) rfl rfl rfl (cf_fn Tryd.func11 (by kernel_rfl) (by kernel_rfl) _ _) _ (cT.out wr.drew (hs.out.1.later (bey_drew _)).b fn k F hFi.out hkl) ?_
        rintro e5 w5 ⟨ta, tc, rfl, hT, hb5⟩
        obtain ⟨Q, hQ⟩ : ∃ Q, Hid (mxL zO (tchI F.fn (insAt F.code k)) = Q) := ⟨_, rfl⟩
        rw [hQ.out] at hT
        simp only [hQ.out]
        have hH5 : Below wr.heap.size wr w5 := bthen hH hb5
        refine ⟨_, rfl, hH5, fun _ => ?_⟩
        simp only [Act.put, List.getElem_toArray, List.getElem_cons_succ, List.getElem_cons_zero, List.setIfInBounds_toArray, List.set_cons_zero, List.set_cons_succ]
        refine reg_move (i := 7) rfl (by kernel_rfl) (by kernel_rfl) (by kernel_rfl) (fun _ _ _ _ h => h) rfl (.slice ta (lstO Q 56).length tc) (fun _ => rfl) hH5 ?_
        simp only [Act.put, List.getElem_toArray, List.getElem_cons_succ, List.getElem_cons_zero, List.setIfInBounds_toArray, List.set_cons_zero, List.set_cons_succ]
        refine wpAnyH_done (by kernel_rfl) ?_ _
        have hs5 : Hid (RmW w w5 M TB DB M.fns.length td dn X pa pc4 O oa oc ∧ Rows w5 3 ta tc ((lstO Q 56).map AcQ.cells)) := ⟨hs.out.1.later hH5, hT⟩
        have hJ : Hid (RmJ M.pr.fns f pc P fn F.fn S O td dn i ∧ ∀ j, O j = 0 ∨ O j = 1 ∨ O j = 2) := hs.out.2
        have hTr : Hid (TchR F.fn (insAt F.code k) ∧ ((insAt F.code k).op = 62 → 0 ≤ (insAt F.code k).b ∧ (insAt F.code k).b < M.fns.length) ∧ F.code[k]? = some (insAt F.code k)) := by
          have hi' : F.code[k]? = some (insAt F.code k) := by (have := (insAt_mem (code := F.code) (pc := (k : Int)) (by omega) (by omega)).1; rw [Int.toNat_natCast] at this; exact this)
          exact ⟨(hch.out F (List.mem_of_getElem? hFi.out) _ (List.mem_of_getElem? hi')).1, (hch.out F (List.mem_of_getElem? hFi.out) _ (List.mem_of_getElem? hi')).2, hi'⟩
        have hTl : (lstO Q 56).length ≤ 56 := lstO_len Q 56
        have hQr : Hid (∀ j, Q j = 0 ∨ Q j = 1 ∨ Q j = 2) := by (rw [← hQ.out]; exact mxL_range (fun j => .inl rfl) (fun x hx => tch_pos hx))
        clear hrP hH hH5 hb5 hT hix lcel hs hPc hlb
        go_wp2_with fail
        go_loopw [7, 14] (fun o u wr => ∃ (j : Nat) (oa : Option Addr) (oc : Nat), j ≤ (lstO Q 56).length ∧ u = .int .i64 (j : Int) ∧ o = .slice oa (lstO (mxL O ((prs Q 56).take j)) 56).length oc ∧ Hid (RmW w wr M TB DB M.fns.length td dn X pa pc4 (mxL O ((prs Q 56).take j)) oa oc ∧ Rows wr 3 ta tc ((lstO Q 56).map AcQ.cells))) (fun _ u _ => (lstO Q 56).length - (intOf u).toNat)
        case atStart => exact ⟨0, oa, oc, Nat.zero_le _, rfl, rfl, hs5.out⟩
        case round =>
          clear hs5
          obtain ⟨j, oa, oc, hj, rfl, rfl, hs⟩ := hrel
          by_cases hjl : j < (lstO Q 56).length
          · have hjI : (j : Int) < (lstO Q 56).length := by omega
            obtain ⟨y, hy⟩ : ∃ y, (prs Q 56)[j]? = some y := ⟨_, List.getElem?_eq_getElem (by rw [lst_prs, List.length_map] at hjl; exact hjl)⟩
            have hy2 : (lstO Q 56)[j]? = some (toA y) := by rw [lst_prs, List.getElem?_map, hy]; rfl
            obtain ⟨y1, y2, y3⟩ := prs_mem.mp (List.mem_of_getElem? hy)
            have hyp : y.2 = 1 ∨ y.2 = 2 := by (have := hQr.out y.1; omega)
            have hO1 := mxL_range hJ.out.2 (l := (prs Q 56).take j) (fun x hx => by obtain ⟨e1, e2, e3⟩ := prs_mem.mp (List.mem_of_mem_take hx); have := hQr.out x.1; omega)
            have hadd := addA_lst (mxL O ((prs Q 56).take j)) y.1 y.2 hyp hO1 y1
            have hmore : Hid (mxL O ((prs Q 56).take (j + 1)) = mx1 (mxL O ((prs Q 56).take j)) (y.1, y.2)) := by (show _ = _; rw [take_oneQ _ j y hy, mxL_app]; rfl)
            obtain ⟨b1, o1, hix1, hbl1, c1⟩ := accQ_ix hs.out.2 j (toA y) hy2
            have xA := rAdd_any (lstO (mxL O ((prs Q 56).take j)) 56) oa oc (toA y) wr hs.out.1.o (by have := lstO_len (mxL O ((prs Q 56).take j)) 56; omega)
            rw [show addA (lstO (mxL O ((prs Q 56).take j)) 56) (toA y) = lstO (mx1 (mxL O ((prs Q 56).take j)) (y.1, y.2)) 56 from hadd] at xA
            have hrg : Hid (wr.rangeAt b1 o1 [.int .i64 (toA y).kind, .int .i64 (toA y).num, .bool (toA y).wr]) := c1
            clear hy hy2 y1 y2 y3 hyp hO1 hadd hbl1 c1
            generalize toA y = ya at *
            go_wp2_with (first
              | ((with_reducible refine at_loadQ 53 _ rfl ?_); refine stopQ_out ?_; refine wpList_load_mid rfl 53 _ rfl b1 o1 rfl [.int .i64 ya.kind, .int .i64 ya.num, .bool ya.wr] _ hrg.out huA.out rfl (by kernel_rfl) ?_)
              | (go_at_call 33; (with_reducible refine xA.mono ?_); clear xA; rintro e' w7 ⟨va2, vc2, rfl, hA7⟩; (have hs8 : Hid (RmW w w7 M TB DB M.fns.length td dn X pa pc4 (mx1 (mxL O ((prs Q 56).take j)) (y.1, y.2)) va2 vc2 ∧ Rows w7 3 ta tc ((lstO Q 56).map AcQ.cells)) := ⟨hs.out.1.grow hA7, hs.out.2.later hA7.be⟩)))
            go_roundw
            case rel => exact ⟨j + 1, va2, vc2, by omega, by go_num, by rw [hmore.out], by rw [hmore.out]; exact hs8⟩
            case measure => simp [intOf]; omega
          · have hlq : (lstO Q 56).length = (prs Q 56).length := by rw [lst_prs, List.length_map]
            have hje : (prs Q 56).take j = prs Q 56 := List.take_of_length_le (by omega)
            have hjI : ¬ ((j : Int) < (lstO Q 56).length) := by omega
            obtain ⟨O2, hO2⟩ : ∃ O2, Hid (mxL O ((prs Q 56).take j) = O2) := ⟨_, rfl⟩
            have hO3 : Hid (mxL O (prs Q 56) = O2) := (by (rw [← hO2.out, hje]; exact rfl))
            have hsW : Hid (RmW w wr M TB DB M.fns.length td dn X pa pc4 O2 oa oc) := (by (rw [← hO2.out]; exact hs.out.1))
            have hrO : Hid (∀ j, O2 j = 0 ∨ O2 j = 1 ∨ O2 j = 2) := (by (rw [← hO3.out]; exact mxL_range hJ.out.2 (fun x hx => by obtain ⟨e1, e2, e3⟩ := prs_mem.mp hx; have := hQr.out x.1; omega)))
            simp only [hO2.out]
            clear hs hje hO2 hjl
            have hl1 := hsW.out.p.2.2.2
            obtain ⟨fb, fo, hfix, hfb, fc0, fc1, fc2, fc3⟩ := fn_ix (hMH.out.later hsW.out.b).2.2.1 fn F hFi.out
            obtain ⟨lb, lo, hix, hlb, lcel⟩ := ch_ix hsW.out.x i (k : Int) hxk.out.1
            have hlies := (hMH.out.later hsW.out.b).2.2.2.2.2.2 F (List.mem_of_getElem? hFi.out)
            obtain ⟨ib, io, hiix, hib, i0, i1, i2, i3, i4⟩ := ins_ix hlies.1 k _ hTr.out.2.2
            clear hlies fc0 fc1 fc3 hfb hlb hib i1 i3 i4
            by_cases h62 : (insAt F.code k).op = 62
            · have d62 : ((insAt F.code k).op == 62) = true := by simpa using h62
              obtain ⟨bn, hbn⟩ : ∃ bn : Nat, (insAt F.code k).b = (bn : Int) := ⟨(insAt F.code k).b.toNat, by have := (hTr.out.2.1 h62).1; omega⟩
              have hbl : bn < M.fns.length := by (have := (hTr.out.2.1 h62).2; omega)
              have hJ2 : Hid (RmJ M.pr.fns f pc P fn F.fn S O2 (fun b => if b = bn then true else td b) dn (i + 1)) := by
                rw [← hO3.out, ← hQ.out]
                refine hJ.out.1.step (by rw [show F.fn.code.length = F.code.length from rfl, hX.out]; exact hxk.out.1) hJ.out.2 hxk.out.2 (by rw [if_pos (show (insAt F.fn.code k).op = 62 from h62), show (insAt F.fn.code k).b = (bn : Int) from hbn]; rfl) (fun _ => by rw [show (insAt F.fn.code k).b = (bn : Int) from hbn, hnE.out]; exact hbl) hTr.out.1
              rw [hbn] at i2
              clear h62 hJ
              generalize (insAt F.code k).op = op at *
              go_wp2_with fail
              go_quiet (fail)
              obtain ⟨Y, hY⟩ : ∃ Y, wr.drewN nq = Y := ⟨_, rfl⟩
              rw [hY]
              have hbY : Below wr.heap.size wr Y := (by (rw [← hY]; exact below_drewN (Below.refl _ _) _))
              have hsY : Hid (RmW w Y M TB DB M.fns.length td dn X pa pc4 O2 oa oc) := hsW.out.later hbY
              have hl1 := hsY.out.p.2.2.2
              have fc2 := cell_later hbY fc2
              have lcel := cell_later hbY lcel
              have i2 := cell_later hbY i2
              clear hY hsW hbY i0
              have xJ := ix_bl TB M.fns.length M.fns.length bn hbl
              have cB : Y.cell? ⟨TB, bn, none⟩ = some (.bool (td bn)) := (hsY.out.t.cell hbl).1
              have fB : Y.frozen? ⟨TB, bn, none⟩ = false := (hsY.out.t.cell hbl).2
              have hnew : Hid (RmW w (Y.setCell ⟨TB, bn, none⟩ (.bool true)).drew M TB DB M.fns.length (fun b => if b = bn then true else td b) dn X pa pc4 O2 oa oc) := (hsY.out.setT hbl).later (bey_drew _)
              clear hsY
              go_wp2_with fail
              go_region
              go_wp2
              go_roundw
              case rel => exact ⟨i + 1, O2, _, oa, oc, by omega, by go_num, rfl, hnew.out, hJ2.out, hrO.out⟩
              case measure => simp [intOf]; omega
            · have d62 : ((insAt F.code k).op == 62) = false := by simpa using h62
              have hJ2 : Hid (RmJ M.pr.fns f pc P fn F.fn S O2 td dn (i + 1)) := by
                rw [← hO3.out, ← hQ.out]
                refine hJ.out.1.step (by rw [show F.fn.code.length = F.code.length from rfl, hX.out]; exact hxk.out.1) hJ.out.2 hxk.out.2 (by rw [if_neg (show ¬ (insAt F.fn.code k).op = 62 from h62)]) (fun q => absurd q h62) hTr.out.1
              clear h62 hJ
              generalize (insAt F.code k).op = op at *
              go_wp2_with fail
              go_quiet (fail)
              go_wp2
              go_roundw
              case rel => exact ⟨i + 1, O2, td, oa, oc, by omega, by go_num, rfl, hsW.out.later (below_drewN (Below.refl _ _) _), hJ2.out, hrO.out⟩
              case measure => simp [intOf]; omega
      · have hie : i = X.length := by omega
        have hiI : ¬ ((i : Int) < X.length) := by omega
        have hK : Hid (RmK M.pr.fns f pc (unS P fn S) O td dn) := RmJ.done (F := F.fn) (by (have h := hs.out.2.1; rw [hie, ← hX.out] at h; exact h))
        have hsW : Hid (RmW w wr M TB DB M.fns.length td dn X pa pc4 O oa oc ∧ ∀ j, O j = 0 ∨ O j = 1 ∨ O j = 2) := ⟨hs.out.1, hs.out.2.2⟩
        clear hs hie hiI hi
        go_wp2_with fail
        go_loopw [11] (fun u wr => ∃ g : Nat, g ≤ M.fns.length ∧ u = .int .i64 (g : Int) ∧ Hid (RmW w wr M TB DB M.fns.length td dn X pa pc4 O oa oc ∧ ∀ b, b < g → td b = true → dn b = true)) (fun u _ => M.fns.length - (intOf u).toNat)
        case atStart => exact ⟨0, Nat.zero_le _, rfl, hsW.out.1, fun b h => absurd h (Nat.not_lt_zero _)⟩
        case round =>
          obtain ⟨g, hg, rfl, hs⟩ := hrel
          have hrO : Hid (∀ j, O j = 0 ∨ O j = 1 ∨ O j = 2) := hsW.out.2
          clear hsW
          by_cases hlt : g < M.fns.length
          · have hgI : (g : Int) < M.fns.length := by omega
            have xT := ix_bl TB M.fns.length M.fns.length g hlt
            have xD := ix_bl DB M.fns.length M.fns.length g hlt
            have cTb : wr.cell? ⟨TB, g, none⟩ = some (.bool (td g)) := (hs.out.1.t.cell hlt).1
            have cDb : wr.cell? ⟨DB, g, none⟩ = some (.bool (dn g)) := (hs.out.1.d.cell hlt).1
            have hnx : Hid ((td g = true → dn g = true) → ∀ b, b < g + 1 → td b = true → dn b = true) := fun q b hb h => by
              by_cases e : b = g
              · subst e; exact q h
              · exact hs.out.2 b (by omega) h
            obtain ⟨t, ht⟩ : ∃ t, td g = t := ⟨_, rfl⟩
            obtain ⟨d, hd⟩ : ∃ d, dn g = d := ⟨_, rfl⟩
            rw [ht] at cTb
            rw [hd] at cDb
            cases t with
            | false =>
              have hq : Hid (RmW w wr M TB DB M.fns.length td dn X pa pc4 O oa oc ∧ ∀ b, b < g + 1 → td b = true → dn b = true) := ⟨hs.out.1, hnx.out (fun q => by rw [ht] at q; cases q)⟩
              clear hs hnx
              go_wp2
              go_roundw
              case rel => exact ⟨g + 1, by omega, by go_num, hq.out⟩
              case measure => simp [intOf]; omega
            | true =>
              cases d with
              | true =>
                have hq : Hid (RmW w wr M TB DB M.fns.length td dn X pa pc4 O oa oc ∧ ∀ b, b < g + 1 → td b = true → dn b = true) := ⟨hs.out.1, hnx.out (fun _ => hd)⟩
                clear hs hnx
                go_wp2
                go_roundw
                case rel => exact ⟨g + 1, by omega, by go_num, hq.out⟩
                case measure => simp [intOf]; omega
              | false =>
                obtain ⟨G, hG⟩ : ∃ G, M.fns[g]? = some G := ⟨_, List.getElem?_eq_getElem hlt⟩
                have hfD : wr.frozen? ⟨DB, g, none⟩ = false := (hs.out.1.d.cell hlt).2
                have hne : ((g : Int) == (M.fns.length : Int)) = false := beq_eq_false_iff_ne.mpr (by omega)
                have hsD : Hid (∀ W', W' = wr.setCell ⟨DB, g, none⟩ (.bool true) → RmW w W' M TB DB M.fns.length td (fun b => if b = g then true else dn b) X pa pc4 O oa oc) := fun W' e => by (rw [e]; exact hs.out.1.setD hlt)
                have hms2 : Hid (miss (fun b => if b = g then true else dn b) M.fns.length < miss dn M.fns.length) := miss_lt (fun b q => by (show (if b = g then true else dn b) = true; split; rfl; exact q)) _ ⟨g, hlt, by (show (if g = g then true else dn g) ≠ dn g; rw [if_pos rfl, hd]; simp)⟩
                have hRc : Hid (∀ W', Below w.heap.size w W' → Calls Tryd.prog 32 #[M.val, .int .i64 (g : Int), .int .i64 0] W' _) := fun W' hW' => cR.out W' hW' g 0 G hG (hfl.out G (List.mem_of_getElem? hG)).l1
                have hGH : Hid (M.fns[g]? = some G ∧ td g = true) := ⟨hG, ht⟩
                clear hs hnx hG
                go_wp2_with (first
                  | ((with_reducible refine at_storeQ 4 _ _ rfl ?_); refine stopQ_out ?_; refine wpList_putb rfl 4 _ _ rfl ⟨DB, g, none⟩ rfl true rfl (by kernel_rfl) _ cDb hfD ?_; intro W1 hW1; (have hw1 : Hid _ := hsD.out W1 hW1); clear hW1 cDb hfD cTb; (have p := hw1.out.p); obtain ⟨p0, p1, p2, p3⟩ := p; (have xR := hRc.out W1 hw1.out.b))
                  | (go_at_call 32; (with_reducible refine xR.mono ?_); rintro e w4 ⟨S2, pa2, pc2, rfl, hS, hSo, hSr, hb4, hbk⟩; (have hfin : Hid (RmW w w4 M TB DB M.fns.length td (fun b => if b = g then true else dn b) (lst S2 G.code.length) pa2 pc2 O oa oc ∧ RmJ M.pr.fns f pc (unS P fn S) g G.fn S2 O td (fun b => if b = g then true else dn b) 0) := ⟨hw1.out.fresh hb4 hSr hbk, hK.out.next (hFnH.out g G hGH.out.1) hGH.out.2 hS hSo⟩); clear hS hSo hSr hbk xR p0 p1 p2 p3))
                go_roundw
                case rel => exact ⟨O, unS P fn S, S2, G, g, td, _, oa, pa2, oc, pc2, rfl, rfl, rfl, hfin.out.1, hfin.out.2, hGH.out.1, hrO.out⟩
                case measure => rw [hms.out, missB_is hfin.out.1.d]; exact hms2.out
          · have hge : g = M.fns.length := by omega
            subst hge
            have hf := hK.out.fin (fun b hb h => hs.out.2 b (by rw [hnE.out] at hb; exact hb) h)
            have hfH : Hid (LeastP M.pr.fns f pc (unS P fn S) ∧ MayO M.pr.fns (unS P fn S) O) := hf
            clear hf
            go_wp2
            go_ret
            exact ⟨_, O, oa, oc, rfl, hfH.out.1, hfH.out.2, hs.out.1.o, hs.out.1.b⟩
end Go.Proofs.YtlcljdldhajkiaaDoor.pg
/- Two lists of accesses, the same. -/
namespace Go.Proofs.YtlcljdldhajkiaaDoor.pg
open Go.ChangeShapes Go.WideShapes Go.ChangeAt Go.RowKit Go.Shelf
set_option linter.unusedVariables false
set_option linter.unusedSimpArgs false
set_option maxRecDepth 100000
attribute [local go_sem ↓] Go.wp_at_zero Go.wp_at_succ
def eqAQ (x y : AcQ) : Bool := x.kind == y.kind && x.num == y.num && x.wr == y.wr
theorem run_neAQ (x y : AcQ) (w : World) : (binOp .neq 53 x.val y.val).run Tryd.prog w = .ok (.bool (!eqAQ x y)) w := by
  have u0 := Tryd.underlying4
  have a0 := Tryd.isAgg4
  have z0 := Tryd.sizeOf4
  have u1 := Tryd.underlying3
  have a1 := Tryd.isAgg3
  have z1 := Tryd.sizeOf3
  have hS : Tryd.prog.underlying 53 = some (.struct (Tryd.prog.fieldsOf 53)) := by kernel_rfl
  have hp : Tryd.prog.stoodInHeld 53 = false := by kernel_rfl
  rw [run_neq_struct, show (10000 : Nat) = 9999 + 1 from rfl, run_equalIn_agg w 9999 53 _ _ hS hp]
  simp only [Program.fieldsOf, Tryd.underlying53]
  go_simp
  by_cases h0 : x.kind = y.kind <;> by_cases h1 : x.num = y.num <;> by_cases h2 : x.wr = y.wr <;> simp [eqAQ, h0, h1, h2]
set_option maxHeartbeats 1000000 in
theorem sameAccQ_any (l : List AcQ) (a b : Option Addr) (ca cb : Nat) (w : World) (ha : Rows w 3 a ca (l.map AcQ.cells)) (hb : Rows w 3 b cb (l.map AcQ.cells)) :
    Calls Tryd.prog 10 #[.slice a l.length ca, .slice b l.length cb] w fun e w' => e = .returned (.bool true) ∧ Below w.heap.size w w' := by
  have hlI : (l.length : Int) ≤ 9223372036854775807 := rows_len ha
  go_enter Tryd.func10, Tryd.ntmps10
  go_wp2_with fail
  go_loopw [13] (fun u wr => ∃ k : Nat, k ≤ l.length ∧ u = .int .i64 k ∧ Below w.heap.size w wr) (fun u _ => l.length - (intOf u).toNat)
  case atStart => exact ⟨0, Nat.zero_le _, rfl, Below.refl _ _⟩
  case round =>
    obtain ⟨k, hk, rfl, hbe⟩ := hrel
    by_cases hlt : k < l.length
    · obtain ⟨y, hy, hym⟩ := get_lt l k hlt
      obtain ⟨b1, o1, hix1, hbl1, c1⟩ := accQ_ix (ha.later hbe) k y hy
      obtain ⟨b2, o2, hix2, hbl2, c2⟩ := accQ_ix (hb.later hbe) k y hy
      have k0 : wr.cell? ⟨b1, o1, none⟩ = some (.int .i64 y.kind) := c1 0 _ rfl
      have k1 : wr.cell? ⟨b1, o1 + 1, none⟩ = some (.int .i64 y.num) := c1 1 _ rfl
      have k2 : wr.cell? ⟨b1, o1 + 2, none⟩ = some (.bool y.wr) := c1 2 _ rfl
      have m0 : wr.cell? ⟨b2, o2, none⟩ = some (.int .i64 y.kind) := c2 0 _ rfl
      have m1 : wr.cell? ⟨b2, o2 + 1, none⟩ = some (.int .i64 y.num) := c2 1 _ rfl
      have m2 : wr.cell? ⟨b2, o2 + 2, none⟩ = some (.bool y.wr) := c2 2 _ rfl
      have hkI : (k : Int) < l.length := by omega
      have heq : ∀ wx, (binOp .neq 53 (.agg #[.int .i64 y.kind, .int .i64 y.num, .bool y.wr]) (.agg #[.int .i64 y.kind, .int .i64 y.num, .bool y.wr])).run Tryd.prog wx = .ok (.bool false) wx := fun wx => by
        have := run_neAQ y y wx
        rw [show eqAQ y y = true by simp [eqAQ]] at this
        exact this
      go_wp2_with fail
      go_quiet (fail)
      go_wp2
      go_roundw
      case rel => exact ⟨k + 1, by omega, by go_num, below_drewN hbe _⟩
      case measure => simp [intOf]; omega
    · have hk2 : k = l.length := by omega
      subst hk2
      go_wp2
      go_ret
      exact ⟨rfl, hbe⟩
end Go.Proofs.YtlcljdldhajkiaaDoor.pg
/- FlowTouches, walked. -/
namespace Go.Proofs.YtlcljdldhajkiaaDoor.pg
open Go.ChangeShapes Go.WideShapes Go.ChangeAt Go.RowKit Go.Shelf
set_option linter.unusedVariables false
set_option linter.unusedSimpArgs false
set_option maxRecDepth 100000
set_option maxHeartbeats 8000000 in
theorem flowTouches_any (M : MPr) (f pc : Int) (w : World) (hM : M.lies w) (hF : prog.Forms w) : Calls Tryd.prog 3 #[M.val, .int .i64 f, .int .i64 pc] w fun e w' => e = .returned (.bool true) ∧ Below w.heap.size w w' := by
  have hb := boxed w (objP M)
  have bP := boxP_new w M
  have bPH : Hid (BoxP (w.alloc (objP M)) w.heap.size M) := bP
  have hbH : Hid (Below w.heap.size w (w.alloc (objP M))) := hb
  have hMH : Hid (M.lies w) := hM
  have hPH : Hid (prog.Forms w) := hF
  obtain ⟨e, he⟩ : ∃ e, Hid (e = fitP M.pr f pc) := ⟨_, rfl⟩
  by_cases e0 : e = 0
  rotate_left
  · have xT := touches_err M f pc _ (hM.later hb) (hF.later hb) e he e0
    have cM : ∀ V, Below w.heap.size w V → Calls Tryd.prog 7 #[M.val, .int .i64 f, .int .i64 pc] V _ := fun V hV => may_err M f pc V (hMH.out.later hV) (hPH.out.later hV) e he e0
    have cI : ∀ V, Below w.heap.size w V → Calls Tryd.prog 8 #[M.val, .int .i64 f, .int .i64 pc] V fun e' w' => e' = .returned (.int .i64 e) ∧ Below V.heap.size V w' := fun V hV => rfit_any M f pc V (hMH.out.later hV) e he
    have cS : ∀ V, Below w.heap.size w V → Calls Tryd.prog 9 #[] V fun e' w' => e' = .returned (.bool true) ∧ Below V.heap.size V w' := fun V hV => speaksF_any V (hPH.out.later hV)
    have d : (e != 0) = true := by simpa using e0
    have d2 : (e != e) = false := by simp
    clear hM hF hb e0 he
    go_enter Tryd.func3, Tryd.ntmps3
    go_wp2_with (first
      | (go_at_call 6; (with_reducible refine xT.mono ?_); rintro e' w2 ⟨rfl, hb2⟩; clear bP xT; (have h2 : Hid (Below w.heap.size w w2 ∧ BoxP w2 w.heap.size M) := ⟨bthen hbH.out hb2, bPH.out.later hb2⟩); (have bP := h2.out.2); obtain ⟨p0, p1, p2, p3⟩ := bP; (have xM := cM w2 h2.out.1))
      | (go_at_call 7; (with_reducible refine xM.mono ?_); rintro e' w3 ⟨rfl, hb3⟩; clear p0 p1 p2 p3 xM; (have h3 : Hid (Below w.heap.size w w3 ∧ BoxP w3 w.heap.size M) := ⟨bthen h2.out.1 hb3, h2.out.2.later hb3⟩); (have bP := h3.out.2); obtain ⟨p0, p1, p2, p3⟩ := bP; (have xI := cI w3 h3.out.1))
      | (go_at_call 8; (with_reducible refine xI.mono ?_); rintro e' w4 ⟨rfl, hb4⟩; clear p0 p1 p2 p3 xI; (have h4 : Hid (Below w.heap.size w w4) := bthen h3.out.1 hb4); (have xS := cS w4 h4.out))
      | (go_at_call 9; (with_reducible refine xS.mono ?_); rintro e' w5 ⟨rfl, hb5⟩; (have h5 : Hid (Below w.heap.size w w5) := bthen h4.out hb5)))
    go_ret
    exact ⟨rfl, h5.out⟩
  subst e0
  have hfit : fitP M.pr f pc = 0 := he.out.symm
  have hff : fitF M.pr f = 0 := by
    apply Classical.byContradiction
    intro q
    rw [fitP, if_neg q] at hfit
    exact q hfit
  obtain ⟨F, hFi, hFm, eF⟩ := fn_get hff
  obtain ⟨hok, f0, f1⟩ := fitF_ok hff
  have hpp : 0 ≤ pc ∧ pc < F.code.length := by
    rw [fitP, if_pos hff, eF] at hfit
    apply Classical.byContradiction
    intro q
    rw [if_neg (show ¬ (0 ≤ pc ∧ pc < (F.fn.code.length : Int)) from q)] at hfit
    cases hfit
  have hfl : FlowF F.fn := flow_of hok F.fn (List.mem_map.mpr ⟨F, hFm, rfl⟩)
  obtain ⟨fn, rfl⟩ : ∃ k : Nat, f = (k : Int) := ⟨f.toNat, by omega⟩
  rw [Int.toNat_natCast] at hFi
  obtain ⟨pn, rfl⟩ : ∃ pn : Nat, pc = (pn : Int) := ⟨pc.toNat, by omega⟩
  have hpl : pn < F.code.length := by omega
  have hi : F.code[pn]? = some (insAt F.code pn) := by (have := (insAt_mem (code := F.code) (pc := (pn : Int)) (by omega) (by omega)).1; rw [Int.toNat_natCast] at this; exact this)
  have hTr : TchR F.fn (insAt F.code pn) := tchR_of hok (List.mem_map.mpr ⟨F, hFm, rfl⟩) (List.mem_of_getElem? hi)
  have xT := touches_ok M fn pn _ (hM.later hb) (hF.later hb) F hFi hok hpl hfit
  have cM : ∀ V, Below w.heap.size w V → Calls Tryd.prog 7 #[M.val, .int .i64 (fn : Int), .int .i64 (pn : Int)] V _ := fun V hV => may_ok M fn pn V (hMH.out.later hV) (hPH.out.later hV) F hFi hok hpl hfit
  have cI : ∀ V, Below w.heap.size w V → Calls Tryd.prog 8 #[M.val, .int .i64 (fn : Int), .int .i64 (pn : Int)] V fun e' w' => e' = .returned (.int .i64 0) ∧ Below V.heap.size V w' := fun V hV => rfit_any M fn pn V (hMH.out.later hV) 0 he
  have cS : ∀ V, Below w.heap.size w V → Calls Tryd.prog 9 #[] V fun e' w' => e' = .returned (.bool true) ∧ Below V.heap.size V w' := fun V hV => speaksF_any V (hPH.out.later hV)
  have cU : ∀ V, Below w.heap.size w V → Calls Tryd.prog 11 #[M.val, .int .i64 (fn : Int), .int .i64 (pn : Int)] V _ := fun V hV => rtouches_any M fn pn V (hMH.out.later hV) F hFi hpl hfl.l64 hTr
  have cN : ∀ V, Below w.heap.size w V → Calls Tryd.prog 12 #[M.val, .int .i64 (fn : Int), .int .i64 (pn : Int)] V _ := fun V hV => rmay_any M fn pn V (hMH.out.later hV) F hFi hok hpl
  clear hM hF hb he hfit hff hFi hFm eF hok f0 f1 hpp hpl hfl hi hTr
  obtain ⟨T, hT⟩ : ∃ T, Hid (lstO (mxL zO (tchI F.fn (insAt F.code pn))) 56 = T) := ⟨_, rfl⟩
  rw [hT.out] at xT
  simp only [hT.out] at cU
  go_enter Tryd.func3, Tryd.ntmps3
  go_upto_region 2 with (go_at_call 6; (with_reducible refine xT.mono ?_); rintro e' w2 ⟨va, vc, rfl, hoT, hb2⟩)
  have h2 : Hid (Below w.heap.size w w2 ∧ BoxP w2 w.heap.size M ∧ Rows w2 3 va vc (T.map AcQ.cells)) := ⟨bthen hbH.out hb2, bPH.out.later hb2, own_rows hoT (ac_len T)⟩
  clear hoT hb2 xT bP
  obtain ⟨p0, p1, p2, p3⟩ := h2.out.2.1
  have xM := cM w2 h2.out.1
  go_upto_region 3 with (go_at_call 7; (with_reducible refine xM.mono ?_); rintro e' w3 ⟨R, O, ma, mc, rfl, hR, hO, hoM, hb3⟩)
  obtain ⟨Q, hQ⟩ : ∃ Q, Hid (lstO O 56 = Q) := ⟨_, rfl⟩
  rw [hQ.out] at hoM
  simp only [hQ.out]
  have hRO : Hid (LeastP M.pr.fns fn pn R ∧ MayO M.pr.fns R O) := ⟨hR, hO⟩
  have h3 : Hid (Below w.heap.size w w3 ∧ BoxP w3 w.heap.size M ∧ Rows w3 3 va vc (T.map AcQ.cells) ∧ Rows w3 3 ma mc (Q.map AcQ.cells)) := ⟨bthen h2.out.1 hb3, h2.out.2.1.later hb3, h2.out.2.2.later hb3, own_rows hoM (ac_len Q)⟩
  clear hoM hb3 xM cM h2 hR hO p0 p1 p2 p3
  obtain ⟨p0, p1, p2, p3⟩ := h3.out.2.1
  have xI := cI w3 h3.out.1
  go_upto_region 4 with (go_at_call 8; (with_reducible refine xI.mono ?_); rintro e' w4 ⟨rfl, hb4⟩)
  have h4 : Hid (Below w.heap.size w w4 ∧ BoxP w4 w.heap.size M ∧ Rows w4 3 va vc (T.map AcQ.cells) ∧ Rows w4 3 ma mc (Q.map AcQ.cells)) := ⟨bthen h3.out.1 hb4, h3.out.2.1.later hb4, h3.out.2.2.1.later hb4, h3.out.2.2.2.later hb4⟩
  clear hb4 xI cI h3 p0 p1 p2 p3
  have xS := cS w4 h4.out.1
  go_upto_region 8 with (go_at_call 9; (with_reducible refine xS.mono ?_); rintro e' w5 ⟨rfl, hb5⟩; (have h5 : Hid (Below w.heap.size w w5 ∧ BoxP w5 w.heap.size M ∧ Rows w5 3 va vc (T.map AcQ.cells) ∧ Rows w5 3 ma mc (Q.map AcQ.cells)) := ⟨bthen h4.out.1 hb5, h4.out.2.1.later hb5, h4.out.2.2.1.later hb5, h4.out.2.2.2.later hb5⟩); clear hb5 xS cS h4)
  obtain ⟨p0, p1, p2, p3⟩ := h5.out.2.1
  have xU := cU w5 h5.out.1
  go_wp2_with (first
    | (go_at_call 11; (with_reducible refine xU.mono ?_); rintro e' w6 ⟨ua, uc, rfl, hU, hb6⟩; clear p0 p1 p2 p3 xU; (have h6 : Hid (Below w.heap.size w w6 ∧ BoxP w6 w.heap.size M ∧ Rows w6 3 va vc (T.map AcQ.cells) ∧ Rows w6 3 ma mc (Q.map AcQ.cells)) := ⟨bthen h5.out.1 hb6, h5.out.2.1.later hb6, h5.out.2.2.1.later hb6, h5.out.2.2.2.later hb6⟩); (have xV := sameAccQ_any T va ua vc uc w6 h6.out.2.2.1 hU))
    | (go_at_call 10; (with_reducible refine xV.mono ?_); rintro e' w7 ⟨rfl, hb7⟩; clear xV; (have h7 : Hid (Below w.heap.size w w7 ∧ BoxP w7 w.heap.size M ∧ Rows w7 3 ma mc (Q.map AcQ.cells)) := ⟨bthen h6.out.1 hb7, h6.out.2.1.later hb7, h6.out.2.2.2.later hb7⟩); (have bP := h7.out.2.1); obtain ⟨p0, p1, p2, p3⟩ := bP; (have xN := cN w7 h7.out.1))
    | (go_at_call 12; (with_reducible refine xN.mono ?_); rintro e' w8 ⟨R2, O2, na, nc, rfl, hR2, hO2, hN, hb8⟩; clear p0 p1 p2 p3 xN; (have hOe : Hid (lstO O2 56 = Q) := (by (rw [← hQ.out, MayO.same hR2 hRO.out.1 hO2 hRO.out.2]; exact rfl))); rw [hOe.out] at hN; simp only [hOe.out]; (have h8 : Hid (Below w.heap.size w w8 ∧ Rows w8 3 ma mc (Q.map AcQ.cells)) := ⟨bthen h7.out.1 hb8, h7.out.2.2.later hb8⟩); (have xW := sameAccQ_any Q ma na mc nc w8 h8.out.2 hN))
    | (go_at_call 10; (with_reducible refine xW.mono ?_); rintro e' w9 ⟨rfl, hb9⟩; clear xW; (have h9 : Hid (Below w.heap.size w w9) := bthen h8.out.1 hb9)))
  go_ret
  exact ⟨rfl, h9.out⟩
end Go.Proofs.YtlcljdldhajkiaaDoor.pg
