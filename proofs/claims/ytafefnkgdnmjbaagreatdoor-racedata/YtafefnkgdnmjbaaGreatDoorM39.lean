/- The document's own Data. -/
import Derived.Test.YtafefnkgdnmjbaaGreatDoorM38
import Derived.Test.YtafefnkgdnmjbaaGreatDoorM33
import Derived.Test.YtafefnkgdnmjbaaGreatDoorM36
import Derived.Test.YtafefnkgdnmjbaaGreatDoorM16
namespace Go.Proofs.YtafefnkgdnmjbaaGreatDoor.pg
open Go.ChangeShapes Go.WideShapes Go.ChangeAt Go.RowKit Go.Shelf
set_option linter.unusedVariables false
set_option linter.unusedSimpArgs false
set_option maxRecDepth 100000
attribute [local go_sem ↓] Go.wp_at_zero Go.wp_at_succ
/-- Those of the first k races that are upon a plain variable. -/
def rdK (vars : List Vr) (l : List Ev) (D : List (Nat × Nat)) (k : Nat) : List (Nat × Nat) := (D.take k).filter fun p => anyB vars (evf l p.1) (evf l p.2)
theorem rdK_more {vars : List Vr} {l : List Ev} {D : List (Nat × Nat)} {k : Nat} {p : Nat × Nat} (h : D[k]? = some p) : rdK vars l D (k + 1) = rdK vars l D k ++ (if anyB vars (evf l p.1) (evf l p.2) = true then [p] else []) := by
  unfold rdK
  rw [List.take_add_one, h, List.filter_append]
  congr 1
  cases e : anyB vars (evf l p.1) (evf l p.2) <;> simp [List.filter, e]
theorem rdK_len (vars : List Vr) (l : List Ev) (D : List (Nat × Nat)) (k : Nat) : (rdK vars l D k).length ≤ k := Nat.le_trans (List.length_filter_le _ _) (by rw [List.length_take]; omega)
set_option maxHeartbeats 4000000 in
theorem rdata_any (M : MPr) (l : List Ev) (la : Option Addr) (lc : Nat) (w : World) (hM : M.lies w) (h8 : M.vars.length ≤ 8) (hl : Rows w 26 la lc (l.map Ev.cells)) (hlen : l.length ≤ 256) (B : Nat → Nat → Bool) (hB : Tells (dpf l) B) :
    Calls Tryz.prog 18 #[M.val, .slice la l.length lc] w fun e w' => ∃ va vc, e = .returned (.slice va ((rcL B l fun _ _ => true).filter fun p => anyB M.vars (evf l p.1) (evf l p.2)).length vc) ∧ Rows w' 2 va vc (((rcL B l fun _ _ => true).filter fun p => anyB M.vars (evf l p.1) (evf l p.2)).map edg) ∧ Below w.heap.size w w' := by
  have cE : ∀ wx, Below w.heap.size w wx → Calls Tryz.prog 13 #[.slice la l.length lc] wx fun e w' => ∃ va vc, e = .returned (.slice va (rcL B l fun _ _ => true).length vc) ∧ Rows w' 2 va vc ((rcL B l fun _ _ => true).map edg) ∧ Below wx.heap.size wx w' := fun wx hb => rpairs_any l la lc wx (hl.later hb) hlen B hB
  have hin : Hid (∀ p ∈ rcL B l (fun _ _ => true), p.1 < p.2 ∧ p.2 < l.length) := fun p hp => edL_in (List.mem_filter.mp hp).1
  have hEl : (rcL B l fun _ _ => true).length ≤ 65536 := Nat.le_trans (List.length_filter_le _ _) (edL_len hlen)
  have hEI : ((rcL B l fun _ _ => true).length : Int) ≤ 65536 := by omega
  have hlH : Hid (Rows w 26 la lc (l.map Ev.cells)) := hl
  have hMH : Hid (M.lies w ∧ M.vars.length ≤ 8) := ⟨hM, h8⟩
  obtain ⟨iP, hiP, hzP, hsP, hbP⟩ := info_q infoPr
  have iPH : Hid (Tryz.prog.info? 71 = some iP ∧ iP.zero = some (.agg #[.int .i64 0, .int .i64 0]) ∧ iP.size = 2 ∧ iP.bytes = 16) := ⟨hiP, hzP, hsP, hbP⟩
  have bP : Hid ((w.alloc (objP M)).heap[w.heap.size]? = some (objP M)) := heap_alloc_new _ _
  clear hl hlen hB hiP hzP hsP hbP hM h8
  generalize rcL B l (fun _ _ => true) = D at *
  have hall : Hid ((D.filter fun p => anyB M.vars (evf l p.1) (evf l p.2)) = rdK M.vars l D D.length) := by show _ = _; unfold rdK; rw [List.take_length]
  go_enter Tryz.func18, Tryz.ntmps18
  go_wp2_with (go_at_call 13; (with_reducible refine (cE _ (boxed _ _)).mono ?_); rintro e w1 ⟨da, dc, rfl, hr1, hb1⟩; (have hB1 : Hid (Below w.heap.size w w1 ∧ Rows w1 2 da dc (D.map edg) ∧ w1.heap[w.heap.size]? = some (objP M)) := ⟨bthen (boxed _ _) hb1, hr1, (hb1.block _ (Array.getElem?_eq_some_iff.mp bP.out).1).trans bP.out⟩); clear hr1 hb1 cE)
  have s0 : Hid (PsS w1 w1 (rdK M.vars l D 0) none 0) := ⟨Below.refl _ _, own_nilR _ _ _ _⟩
  go_loopw [5, 7] (fun o u wr => ∃ (k : Nat) (va : Option Addr) (vc : Nat), k ≤ D.length ∧ u = .int .i64 (k : Int) ∧ o = .slice va (rdK M.vars l D k).length vc ∧ Hid (PsS w1 wr (rdK M.vars l D k) va vc)) (fun _ u _ => D.length - (intOf u).toNat)
  case atStart => exact ⟨0, none, 0, Nat.zero_le _, rfl, rfl, s0⟩
  case round =>
    clear s0
    obtain ⟨k, va, vc, hk, rfl, rfl, hs⟩ := hrel
    by_cases hlt : k < D.length
    · have hkI : (k : Int) < D.length := by omega
      obtain ⟨p, hp⟩ : ∃ p, D[k]? = some p := ⟨_, List.getElem?_eq_getElem hlt⟩
      obtain ⟨q1, q2⟩ := hin.out p (List.mem_of_getElem? hp)
      have hm := rdK_more (vars := M.vars) (l := l) hp
      have hLk := rdK_len M.vars l D k
      obtain ⟨pi, pj⟩ := p
      have hpi : pi < l.length := by simp only at q1 q2; omega
      have hpj : pj < l.length := q2
      dsimp only at hm
      have hbw : Below w.heap.size w wr := bthen hB1.out.1 hs.out.be
      obtain ⟨c, o, xp, hc, rp⟩ := pr_at (hB1.out.2.1.later hs.out.be) hp
      obtain ⟨d1, o1, x1, hd1, r1⟩ := ev_at l la lc (hlH.out.later hbw) (evf_at hpi)
      obtain ⟨d2, o2, x2, hd2, r2⟩ := ev_at l la lc (hlH.out.later hbw) (evf_at hpj)
      have bM : wr.heap[w.heap.size]? = some (objP M) := (hs.out.be.block _ (Array.getElem?_eq_some_iff.mp hB1.out.2.2).1).trans hB1.out.2.2
      have y0 : ∀ wx, (Instr.indexAt 71 (.pointer (some ⟨c, o, none⟩)) (.int .i64 0)).run Tryz.prog wx = .ok (.pointer (some ⟨c, o, none⟩)) wx := ix2m c o 0 (by omega)
      have y1 : ∀ wx, (Instr.indexAt 71 (.pointer (some ⟨c, o, none⟩)) (.int .i64 1)).run Tryz.prog wx = .ok (.pointer (some ⟨c, o + 1, none⟩)) wx := ix2m c o 1 (by omega)
      have hF : Hid (∀ w', Below wr.heap.size wr w' → w'.cell? ⟨c, o, none⟩ = some (.int .i64 (pi : Int)) ∧ w'.cell? ⟨c, o + 1, none⟩ = some (.int .i64 (pj : Int)) ∧ w'.rangeAt d1 o1 (evf l pi).cells ∧ w'.rangeAt d2 o2 (evf l pj).cells ∧ w'.rangeAt w.heap.size 0 [.slice M.va M.vars.length M.vcap, .int .i64 M.locks, .slice M.cha M.chans.length M.chcap, .slice M.fa M.fns.length M.fcap]) := fun w' h => by
        have a1 := range_block rp (h.block c hc)
        exact ⟨a1 0 _ rfl, a1 1 _ rfl, range_block r1 (h.block d1 hd1), range_block r2 (h.block d2 hd2), range_ofR (l := [.slice M.va M.vars.length M.vcap, .int .i64 M.locks, .slice M.cha M.chans.length M.chcap, .slice M.fa M.fns.length M.fcap]) ((h.block _ (Array.getElem?_eq_some_iff.mp bM).1).trans bM)⟩
      have cA := any1_any M (evf l pi) (evf l pj) wr.drew (hMH.out.1.later (bthen hbw (bey_drew wr))) hMH.out.2
      have hS : Hid (Below wr.heap.size wr wr.drew) := bey_drew wr
      have hrp : Hid (∀ w', Below wr.heap.size wr w' → w'.rangeAt c o (edg (pi, pj))) := fun w' h => range_block rp (h.block c hc)
      have hLH : Hid ((rdK M.vars l D k).length + 1 ≤ 65536) := by show _ ≤ _; omega
      obtain ⟨ex, hex⟩ : ∃ ex, evf l pi = ex := ⟨_, rfl⟩
      obtain ⟨ey, hey⟩ : ∃ ey, evf l pj = ey := ⟨_, rfl⟩
      rw [hex, hey] at hF hm cA
      have hsH : Hid (∀ w', Below wr.heap.size wr w' → PsS w1 w' (rdK M.vars l D k) va vc) := fun w' h => hs.out.later h
      clear hp rp r1 r2 hc hd1 hd2 hs q1 q2 hex hey hLk bM hbw
      go_wp2_with fail
      refine wp_region_noPanic ?_
      refine wp_region_held_drew (S := fun w' => Below wr.heap.size wr w') (by kernel_rfl) hS.out (fun _ => ?_)
      refine reg_load (i := 0) rfl (by kernel_rfl) (by kernel_rfl) (by kernel_rfl) (fun _ _ _ _ h => h) rfl 36 _ rfl w.heap.size 0 rfl [.slice M.va M.vars.length M.vcap, .int .i64 M.locks, .slice M.cha M.chans.length M.chcap, .slice M.fa M.fns.length M.fcap] _ (fun w' h' => (hF.out w' h').2.2.2.2) Tryz.underlying36 rfl (by kernel_rfl) hS.out ?_
      simp only [Act.put, List.getElem_toArray, List.getElem_cons_succ, List.getElem_cons_zero, List.setIfInBounds_toArray, List.set_cons_zero, List.set_cons_succ]
      refine reg_move (i := 1) rfl (by kernel_rfl) (by kernel_rfl) (by kernel_rfl) (fun _ _ _ _ h => h) rfl (.slice la l.length lc) (fun _ => rfl) hS.out ?_
      simp only [Act.put, List.getElem_toArray, List.getElem_cons_succ, List.getElem_cons_zero, List.setIfInBounds_toArray, List.set_cons_zero, List.set_cons_succ]
      refine reg_move (i := 2) rfl (by kernel_rfl) (by kernel_rfl) (by kernel_rfl) (fun _ _ _ _ h => h) rfl (.slice da D.length dc) (fun _ => rfl) hS.out ?_
      simp only [Act.put, List.getElem_toArray, List.getElem_cons_succ, List.getElem_cons_zero, List.setIfInBounds_toArray, List.set_cons_zero, List.set_cons_succ]
      refine reg_move (i := 3) rfl (by kernel_rfl) (by kernel_rfl) (by kernel_rfl) (fun _ _ _ _ h => h) rfl (.int .i64 (k : Int)) (fun _ => rfl) hS.out ?_
      simp only [Act.put, List.getElem_toArray, List.getElem_cons_succ, List.getElem_cons_zero, List.setIfInBounds_toArray, List.set_cons_zero, List.set_cons_succ]
      refine reg_move (i := 4) rfl (by kernel_rfl) (by kernel_rfl) (by kernel_rfl) (fun _ _ _ _ h => h) rfl (.pointer (some ⟨c, o, none⟩)) (fun wx => by unfold execOp; exact run_value_of (xp wx)) hS.out ?_
      simp only [Act.put, List.getElem_toArray, List.getElem_cons_succ, List.getElem_cons_zero, List.setIfInBounds_toArray, List.set_cons_zero, List.set_cons_succ]
      refine reg_move (i := 5) rfl (by kernel_rfl) (by kernel_rfl) (by kernel_rfl) (fun _ _ _ _ h => h) rfl (.pointer (some ⟨c, o, none⟩)) (fun wx => by unfold execOp; exact run_value_of (y0 wx)) hS.out ?_
      simp only [Act.put, List.getElem_toArray, List.getElem_cons_succ, List.getElem_cons_zero, List.setIfInBounds_toArray, List.set_cons_zero, List.set_cons_succ]
      refine reg_load1 (i := 6) rfl (by kernel_rfl) (by kernel_rfl) (by kernel_rfl) (fun _ _ _ _ h => h) rfl 3 _ rfl ⟨c, o, none⟩ rfl _ Tryz.underlying3 rfl (.int .i64 (pi : Int)) (fun w' h' => (hF.out w' h').1) hS.out ?_
      simp only [Act.put, List.getElem_toArray, List.getElem_cons_succ, List.getElem_cons_zero, List.setIfInBounds_toArray, List.set_cons_zero, List.set_cons_succ]
      refine reg_move (i := 7) rfl (by kernel_rfl) (by kernel_rfl) (by kernel_rfl) (fun _ _ _ _ h => h) rfl (.pointer (some ⟨d1, o1, none⟩)) (fun wx => by unfold execOp; exact run_value_of (x1 wx)) hS.out ?_
      simp only [Act.put, List.getElem_toArray, List.getElem_cons_succ, List.getElem_cons_zero, List.setIfInBounds_toArray, List.set_cons_zero, List.set_cons_succ]
      refine reg_load (i := 8) rfl (by kernel_rfl) (by kernel_rfl) (by kernel_rfl) (fun _ _ _ _ h => h) rfl 69 _ rfl d1 o1 rfl ex.cells _ (fun w' h' => (hF.out w' h').2.2.1) Tryz.underlying69 rfl infoE26 hS.out ?_
      simp only [Act.put, List.getElem_toArray, List.getElem_cons_succ, List.getElem_cons_zero, List.setIfInBounds_toArray, List.set_cons_zero, List.set_cons_succ]
      refine reg_move (i := 9) rfl (by kernel_rfl) (by kernel_rfl) (by kernel_rfl) (fun _ _ _ _ h => h) rfl (.slice la l.length lc) (fun _ => rfl) hS.out ?_
      simp only [Act.put, List.getElem_toArray, List.getElem_cons_succ, List.getElem_cons_zero, List.setIfInBounds_toArray, List.set_cons_zero, List.set_cons_succ]
      refine reg_move (i := 10) rfl (by kernel_rfl) (by kernel_rfl) (by kernel_rfl) (fun _ _ _ _ h => h) rfl (.slice da D.length dc) (fun _ => rfl) hS.out ?_
      simp only [Act.put, List.getElem_toArray, List.getElem_cons_succ, List.getElem_cons_zero, List.setIfInBounds_toArray, List.set_cons_zero, List.set_cons_succ]
      refine reg_move (i := 11) rfl (by kernel_rfl) (by kernel_rfl) (by kernel_rfl) (fun _ _ _ _ h => h) rfl (.int .i64 (k : Int)) (fun _ => rfl) hS.out ?_
      simp only [Act.put, List.getElem_toArray, List.getElem_cons_succ, List.getElem_cons_zero, List.setIfInBounds_toArray, List.set_cons_zero, List.set_cons_succ]
      refine reg_move (i := 12) rfl (by kernel_rfl) (by kernel_rfl) (by kernel_rfl) (fun _ _ _ _ h => h) rfl (.pointer (some ⟨c, o, none⟩)) (fun wx => by unfold execOp; exact run_value_of (xp wx)) hS.out ?_
      simp only [Act.put, List.getElem_toArray, List.getElem_cons_succ, List.getElem_cons_zero, List.setIfInBounds_toArray, List.set_cons_zero, List.set_cons_succ]
      refine reg_move (i := 13) rfl (by kernel_rfl) (by kernel_rfl) (by kernel_rfl) (fun _ _ _ _ h => h) rfl (.pointer (some ⟨c, o + 1, none⟩)) (fun wx => by unfold execOp; exact run_value_of (y1 wx)) hS.out ?_
      simp only [Act.put, List.getElem_toArray, List.getElem_cons_succ, List.getElem_cons_zero, List.setIfInBounds_toArray, List.set_cons_zero, List.set_cons_succ]
      refine reg_load1 (i := 14) rfl (by kernel_rfl) (by kernel_rfl) (by kernel_rfl) (fun _ _ _ _ h => h) rfl 3 _ rfl ⟨c, o + 1, none⟩ rfl _ Tryz.underlying3 rfl (.int .i64 (pj : Int)) (fun w' h' => (hF.out w' h').2.1) hS.out ?_
      simp only [Act.put, List.getElem_toArray, List.getElem_cons_succ, List.getElem_cons_zero, List.setIfInBounds_toArray, List.set_cons_zero, List.set_cons_succ]
      refine reg_move (i := 15) rfl (by kernel_rfl) (by kernel_rfl) (by kernel_rfl) (fun _ _ _ _ h => h) rfl (.pointer (some ⟨d2, o2, none⟩)) (fun wx => by unfold execOp; exact run_value_of (x2 wx)) hS.out ?_
      simp only [Act.put, List.getElem_toArray, List.getElem_cons_succ, List.getElem_cons_zero, List.setIfInBounds_toArray, List.set_cons_zero, List.set_cons_succ]
      refine reg_load (i := 16) rfl (by kernel_rfl) (by kernel_rfl) (by kernel_rfl) (fun _ _ _ _ h => h) rfl 69 _ rfl d2 o2 rfl ey.cells _ (fun w' h' => (hF.out w' h').2.2.2.1) Tryz.underlying69 rfl infoE26 hS.out ?_
      simp only [Act.put, List.getElem_toArray, List.getElem_cons_succ, List.getElem_cons_zero, List.setIfInBounds_toArray, List.set_cons_zero, List.set_cons_succ]
      refine reg_callc (i := 17) (by kernel_rfl) rfl rfl 57 _ _ _ _ _ _ rfl M.val (.agg ex.cells.toArray) (.agg ey.cells.toArray) rfl rfl rfl (cf_fn Tryz.func57 (by kernel_rfl) (by kernel_rfl) _ _) _ cA ?_
      rintro e w2 ⟨⟨rr, rfl, hrr⟩, hb2⟩
      have hS2 : Hid (Below wr.heap.size wr w2) := bthen hS.out hb2
      refine ⟨_, rfl, hS2.out, fun _ => ?_⟩
      simp only [Act.put, List.getElem_toArray, List.getElem_cons_succ, List.getElem_cons_zero, List.setIfInBounds_toArray, List.set_cons_zero, List.set_cons_succ]
      cases hg : anyB M.vars ex ey with
      | false =>
        have hst : Hid (rdK M.vars l D (k + 1) = rdK M.vars l D k) := by show _ = _; rw [hm, hg]; simp
        have hge : ¬ 0 ≤ rr := by have := hrr.out.1; rw [hg] at this; simpa using this
        refine reg_move (i := 18) rfl (by kernel_rfl) (by kernel_rfl) (by kernel_rfl) (fun _ _ _ _ h => h) rfl (.bool false) (fun wx => by simp [execOp, go_sem, Act.eval]; omega) hS2.out ?_
        simp only [Act.put, List.getElem_toArray, List.getElem_cons_succ, List.getElem_cons_zero, List.setIfInBounds_toArray, List.set_cons_zero, List.set_cons_succ]
        refine wpAnyH_done (by kernel_rfl) (NoPanic.normal ?_) _
        have hs3 : Hid (PsS w1 w2 (rdK M.vars l D (k + 1)) va vc) := by rw [hst.out]; exact hsH.out _ hS2.out
        have hle : Hid ((rdK M.vars l D (k + 1)).length = (rdK M.vars l D k).length) := by show _ = _; rw [hst.out]
        clear hS hF hst hm hg xp x1 x2 y0 y1 hrp hge hrr hb2 cA hS2
        go_wp2
        go_roundw
        case rel => exact ⟨k + 1, va, vc, by omega, by go_num, by rw [hle.out], hs3⟩
        case measure => simp [intOf]; omega
      | true =>
        have hst : Hid (rdK M.vars l D (k + 1) = rdK M.vars l D k ++ [(pi, pj)]) := by show _ = _; rw [hm, hg]; simp
        have hge : 0 ≤ rr := by have := hrr.out.1; rw [hg] at this; simpa using this
        refine reg_move (i := 18) rfl (by kernel_rfl) (by kernel_rfl) (by kernel_rfl) (fun _ _ _ _ h => h) rfl (.bool true) (fun wx => by simp [execOp, go_sem, Act.eval]; omega) hS2.out ?_
        simp only [Act.put, List.getElem_toArray, List.getElem_cons_succ, List.getElem_cons_zero, List.setIfInBounds_toArray, List.set_cons_zero, List.set_cons_succ]
        refine wpAnyH_done (by kernel_rfl) (NoPanic.normal ?_) _
        have hs2 := hsH.out _ hS2.out
        have hrp2 : Hid (w2.rangeAt c o [.int .i64 (pi : Int), .int .i64 (pj : Int)]) := hrp.out _ hS2.out
        clear hS hF hm hg x1 x2 y0 y1 hrr hb2 cA hge hsH
        obtain ⟨L, hL⟩ : ∃ L, rdK M.vars l D k = L := ⟨_, rfl⟩
        rw [hL] at hs2 hLH hst ⊢
        have hs2H : Hid (PsS w1 w2 L va vc) := hs2
        clear hs2
        go_wp2_with (first
          | (refine wpList_load_mid rfl 71 _ rfl c o rfl [.int .i64 (pi : Int), .int .i64 (pj : Int)] _ hrp2.out Tryz.underlying71 rfl info2 ?_)
          | (at_builtin; (refine wpList_app1 (wr := w2) rfl (.tmp 35) (.tmp 40) 23 rfl w1.heap.size 71 iP _ 2 16 Tryz.underlying23 iPH.out.1 iPH.out.2.1 iPH.out.2.2.1 iPH.out.2.2.2 rfl (by decide) va vc (L.map edg) (by rw [List.length_map]; rfl) hs2H.out.ow (edg (pi, pj)) rfl rfl (one2e _) (by rw [List.length_map]; unfold maxLen; have := hLH.out; omega) (by rw [List.length_map]; have := hLH.out; omega) hs2H.out.be.size ?_); intro va' vc' w8 hg; rw [List.length_map]; (have hs3 : Hid (PsS w1 w8 (rdK M.vars l D (k + 1)) va' vc') := by (rw [hst.out]; exact hs2H.out.grown hg)); (have hle : Hid (L.length + 1 = (rdK M.vars l D (k + 1)).length) := by (show _ = _; rw [hst.out, List.length_append]; rfl)); clear hg))
        go_roundw
        case rel => exact ⟨k + 1, va', vc', by omega, by go_num, by rw [← hle.out], hs3⟩
        case measure => simp [intOf]; omega
    · have hkl : k = D.length := by omega
      subst hkl
      have hfin : Hid (Rows wr 2 va vc ((D.filter fun p => anyB M.vars (evf l p.1) (evf l p.2)).map edg) ∧ Below w.heap.size w wr) := by
        rw [hall.out]
        exact ⟨own_rows hs.out.ow fun row hm => by rw [List.mem_map] at hm; obtain ⟨y, _, rfl⟩ := hm; rfl, bthen hB1.out.1 hs.out.be⟩
      clear hs
      go_wp2
      go_ret
      exact ⟨va, vc, by rw [hall.out]; rfl, hfin.out⟩
end Go.Proofs.YtafefnkgdnmjbaaGreatDoor.pg
/- The races as they are found: what package race tells and what the document's own tells are one list. -/
namespace Go.Proofs.YtafefnkgdnmjbaaGreatDoor.pg
open Go.ChangeShapes Go.WideShapes Go.ChangeAt Go.RowKit Go.Shelf
set_option linter.unusedVariables false
set_option linter.unusedSimpArgs false
theorem cmpV_z {a b : Int} (h : cmpV a b = 0) : a = b := by
  unfold cmpV at h
  split at h
  · omega
  · split at h
    · omega
    · omega
theorem cmpV_slf (a : Int) : cmpV a a = 0 := by unfold cmpV; simp
theorem orV_z {c d : Int} (h : orV c d = 0) : c = 0 ∧ d = 0 := by
  unfold orV at h
  split at h
  · exact ⟨by assumption, h⟩
  · exact absurd h (by assumption)
/-- What is found is of one kind, and has no second number. -/
def oneKind (x : Fd) : Prop := x.k = 5 ∧ x.y = 0
theorem cmp3_zero {x y : Fd} (hx : oneKind x) (hy : oneKind y) (h : cmp3 x y = 0) : x = y := by
  unfold cmp3 at h
  obtain ⟨h1, h2⟩ := orV_z h
  obtain ⟨h3, h4⟩ := orV_z h2
  obtain ⟨h5, h6⟩ := orV_z h3
  obtain ⟨h7, h8⟩ := orV_z h4
  obtain ⟨k, af, ap, bf, bp, n, z⟩ := x
  obtain ⟨k', af', ap', bf', bp', n', z'⟩ := y
  obtain ⟨hx1, hx2⟩ := hx
  obtain ⟨hy1, hy2⟩ := hy
  simp only at *
  rw [cmpV_z h1, cmpV_z h5, cmpV_z h6, cmpV_z h7, cmpV_z h8, hx1, hx2, hy1, hy2]
theorem cmp3_self (x : Fd) : cmp3 x x = 0 := by
  have := good3.turn x x
  omega
theorem cmp3_lt_le {x y z : Fd} (h1 : cmp3 x y < 0) (h2 : cmp3 y z ≤ 0) : cmp3 x z < 0 := by
  have a1 := good3.tr x y z (by omega) h2
  have a2 := good3.tr y z x h2
  have t1 := good3.turn x z
  have t2 := good3.turn x y
  by_cases e : cmp3 x z = 0
  · have := a2 (by omega)
    omega
  · omega
/-- Rising lists of the same members are the same. -/
theorem rise_ext {α : Type} {R : α → α → Prop} (irr : ∀ x, ¬ R x x) (tr : ∀ x y z, R x y → R y z → R x z) : ∀ {l m : List α}, l.Pairwise R → m.Pairwise R → (∀ x, x ∈ l ↔ x ∈ m) → l = m
  | [], [], _, _, _ => rfl
  | [], b :: m, _, _, h => by have := (h b).mpr (by simp); cases this
  | a :: l, [], _, _, h => by have := (h a).mp (by simp); cases this
  | a :: l, b :: m, h1, h2, h => by
    obtain ⟨p1, q1⟩ := List.pairwise_cons.mp h1
    obtain ⟨p2, q2⟩ := List.pairwise_cons.mp h2
    have e : a = b := by
      rcases List.mem_cons.mp ((h a).mp (by simp)) with e | e
      · exact e
      · rcases List.mem_cons.mp ((h b).mpr (by simp)) with e' | e'
        · exact e'.symm
        · exact absurd (tr _ _ _ (p1 b e') (p2 a e)) (irr a)
    subst e
    congr 1
    refine rise_ext irr tr q1 q2 fun x => ⟨fun hx => ?_, fun hx => ?_⟩
    · rcases List.mem_cons.mp ((h x).mp (List.mem_cons_of_mem _ hx)) with e | e
      · subst e; exact absurd (p1 x hx) (irr x)
      · exact e
    · rcases List.mem_cons.mp ((h x).mpr (List.mem_cons_of_mem _ hx)) with e | e
      · subst e; exact absurd (p2 x hx) (irr x)
      · exact e
theorem cpt_rise : ∀ (n : Nat) (D : List Fd), D.length = n → (∀ x ∈ D, oneKind x) → D.Pairwise (fun x y => cmp3 x y ≤ 0) → (cpt D).Pairwise (fun x y => cmp3 x y < 0) ∧ (∀ x, x ∈ cpt D ↔ x ∈ D) := by
  intro n
  induction n with
  | zero =>
    intro D hn _ _
    rw [List.length_eq_zero_iff.mp hn]
    exact ⟨List.Pairwise.nil, fun x => Iff.rfl⟩
  | succ n ih =>
    intro D hn hk hp
    obtain ⟨D', y, rfl⟩ : ∃ D' y, D = D' ++ [y] := ⟨D.dropLast, D.getLast (by intro e; rw [e] at hn; simp at hn), (List.dropLast_concat_getLast _).symm⟩
    rw [List.pairwise_append] at hp
    obtain ⟨hp1, _, hp3⟩ := hp
    have hn' : D'.length = n := by rw [List.length_append, List.length_singleton] at hn; omega
    obtain ⟨i1, i2⟩ := ih D' hn' (fun x hx => hk x (by simp [hx])) hp1
    rw [cpt_snoc]
    unfold cstep
    split
    · rename_i hl
      have hy : y ∈ cpt D' := List.mem_of_getLast? hl
      refine ⟨i1, fun x => ?_⟩
      rw [i2 x, List.mem_append, List.mem_singleton]
      constructor
      · exact fun q => .inl q
      · rintro (q | rfl)
        · exact q
        · exact (i2 x).mp hy
    · rename_i hl
      refine ⟨?_, fun x => by rw [List.mem_append, List.mem_append, i2 x]⟩
      rw [List.pairwise_append]
      refine ⟨i1, List.pairwise_singleton _ _, fun x hx z hz => ?_⟩
      rw [List.mem_singleton] at hz
      subst hz
      have hxD := (i2 x).mp hx
      have hle := hp3 x hxD z (by simp)
      by_cases e : cmp3 x z = 0
      · exfalso
        have exz : x = z := cmp3_zero (hk x (by simp [hxD])) (hk z (by simp)) e
        subst exz
        -- the last of D'
        obtain ⟨D2, t, rfl⟩ : ∃ D2 t, D' = D2 ++ [t] := ⟨D'.dropLast, D'.getLast (by intro e'; rw [e'] at hxD; cases hxD), (List.dropLast_concat_getLast _).symm⟩
        have hlast := cpt_last D2 t
        have ht : t ≠ x := fun e' => hl (by rw [hlast, e'])
        have h1 := hp3 t (by simp) x (by simp)
        have h2 : cmp3 x t ≤ 0 := by
          rw [List.pairwise_append] at hp1
          rcases List.mem_append.mp hxD with q | q
          · exact hp1.2.2 x q t (by simp)
          · rw [List.mem_singleton] at q; exact absurd q.symm ht
        have := good3.turn x t
        exact ht (cmp3_zero (hk t (by simp)) (hk x (by simp)) (by omega))
      · omega
/-- Something put into a rising list in order, once. -/
def putF (f : Fd) : List Fd → List Fd
  | [] => [f]
  | x :: l => if x = f then x :: l else if cmp3 f x < 0 then f :: x :: l else x :: putF f l
theorem putF_mem (f x : Fd) : ∀ l, x ∈ putF f l ↔ x = f ∨ x ∈ l
  | [] => by simp [putF]
  | y :: l => by
    unfold putF
    split
    · rename_i h
      subst h
      simp
    · split
      · simp
      · rw [List.mem_cons, putF_mem f x l, List.mem_cons]
        constructor
        · rintro (q | q | q)
          · exact .inr (.inl q)
          · exact .inl q
          · exact .inr (.inr q)
        · rintro (q | q | q)
          · exact .inr (.inl q)
          · exact .inl q
          · exact .inr (.inr q)
theorem putF_rise {f : Fd} (hf : oneKind f) : ∀ {l : List Fd}, (∀ x ∈ l, oneKind x) → l.Pairwise (fun x y => cmp3 x y < 0) → (putF f l).Pairwise (fun x y => cmp3 x y < 0)
  | [], _, _ => by simp [putF]
  | y :: l, hk, h => by
    obtain ⟨p1, q1⟩ := List.pairwise_cons.mp h
    unfold putF
    split
    · exact h
    · rename_i hne
      split
      · rename_i hlt
        refine List.pairwise_cons.mpr ⟨fun x hx => ?_, h⟩
        rcases List.mem_cons.mp hx with rfl | hx
        · exact hlt
        · have := p1 x hx
          exact cmp3_lt_le hlt (by omega)
      · rename_i hge
        refine List.pairwise_cons.mpr ⟨fun x hx => ?_, putF_rise hf (fun x hx => hk x (by simp [hx])) q1⟩
        rcases (putF_mem f x l).mp hx with rfl | hx
        · have t := good3.turn y x
          have : cmp3 y x ≠ 0 := fun e => hne (cmp3_zero (hk y (by simp)) hf e)
          omega
        · exact p1 x hx
theorem putF_len (f : Fd) : ∀ l, (putF f l).length ≤ l.length + 1
  | [] => by simp [putF]
  | y :: l => by
    have := putF_len f l
    unfold putF
    split
    · simp
    · split
      · simp
      · simp; omega
theorem fdR_kind (f p f2 p2 n : Int) : oneKind (fdR f p f2 p2 n) := by unfold fdR oneKind; split <;> exact ⟨rfl, rfl⟩
/-- What is found upon the first k variables of a program. -/
def inF (vars : List Vr) (x y : Ev) (o : List Fd) : Nat → List Fd
  | 0 => o
  | k + 1 => if shP vars x y (k : Int) then putF (fdR x.fn x.pc y.fn y.pc (k : Int)) (inF vars x y o k) else inF vars x y o k
/-- What is found of the first k pairs. -/
def ouF (vars : List Vr) (l : List Ev) (D : List (Nat × Nat)) : Nat → List Fd
  | 0 => []
  | k + 1 => match D[k]? with
    | some p => inF vars (evf l p.1) (evf l p.2) (ouF vars l D k) vars.length
    | none => ouF vars l D k
theorem inF_mem (vars : List Vr) (x y : Ev) (o : List Fd) (z : Fd) : ∀ k, z ∈ inF vars x y o k ↔ z ∈ o ∨ ∃ n, n < k ∧ shP vars x y (n : Int) = true ∧ z = fdR x.fn x.pc y.fn y.pc (n : Int)
  | 0 => by simp [inF]
  | k + 1 => by
    unfold inF
    have ih := inF_mem vars x y o z k
    split
    · rename_i h
      rw [putF_mem, ih]
      constructor
      · rintro (q | q | ⟨n, q1, q2, q3⟩)
        · exact .inr ⟨k, by omega, h, q⟩
        · exact .inl q
        · exact .inr ⟨n, by omega, q2, q3⟩
      · rintro (q | ⟨n, q1, q2, q3⟩)
        · exact .inr (.inl q)
        · by_cases e : n = k
          · subst e; exact .inl q3
          · exact .inr (.inr ⟨n, by omega, q2, q3⟩)
    · rename_i h
      rw [ih]
      constructor
      · rintro (q | ⟨n, q1, q2, q3⟩)
        · exact .inl q
        · exact .inr ⟨n, by omega, q2, q3⟩
      · rintro (q | ⟨n, q1, q2, q3⟩)
        · exact .inl q
        · by_cases e : n = k
          · subst e; exact absurd q2 h
          · exact .inr ⟨n, by omega, q2, q3⟩
def Rise (o : List Fd) : Prop := (∀ x ∈ o, oneKind x) ∧ o.Pairwise (fun x y => cmp3 x y < 0)
theorem put_Rise {f : Fd} {o : List Fd} (hf : oneKind f) (h : Rise o) : Rise (putF f o) := by
  refine ⟨fun x hx => ?_, putF_rise hf h.1 h.2⟩
  rcases (putF_mem f x o).mp hx with rfl | q
  · exact hf
  · exact h.1 x q
theorem inF_Rise {vars : List Vr} {x y : Ev} {o : List Fd} (h : Rise o) : ∀ k, Rise (inF vars x y o k)
  | 0 => h
  | k + 1 => by
    unfold inF
    split
    · exact put_Rise (fdR_kind _ _ _ _ _) (inF_Rise h k)
    · exact inF_Rise h k
theorem inF_len (vars : List Vr) (x y : Ev) (o : List Fd) : ∀ k, (inF vars x y o k).length ≤ o.length + k
  | 0 => Nat.le_refl _
  | k + 1 => by
    have ih := inF_len vars x y o k
    unfold inF
    split
    · have := putF_len (fdR x.fn x.pc y.fn y.pc (k : Int)) (inF vars x y o k)
      omega
    · omega
theorem ouF_Rise (vars : List Vr) (l : List Ev) (D : List (Nat × Nat)) : ∀ k, Rise (ouF vars l D k)
  | 0 => ⟨by simp [ouF], by simp [ouF]⟩
  | k + 1 => by
    unfold ouF
    split
    · exact inF_Rise (ouF_Rise vars l D k) _
    · exact ouF_Rise vars l D k
theorem ouF_len {vars : List Vr} (h8 : vars.length ≤ 8) (l : List Ev) (D : List (Nat × Nat)) : ∀ k, (ouF vars l D k).length ≤ 8 * k
  | 0 => by simp [ouF]
  | k + 1 => by
    have ih := ouF_len h8 l D k
    unfold ouF
    split
    · rename_i p _
      have := inF_len vars (evf l p.1) (evf l p.2) (ouF vars l D k) vars.length
      omega
    · omega
theorem ouF_mem (vars : List Vr) (l : List Ev) (D : List (Nat × Nat)) (z : Fd) : ∀ k, z ∈ ouF vars l D k ↔ ∃ i p, i < k ∧ D[i]? = some p ∧ ∃ n, n < vars.length ∧ shP vars (evf l p.1) (evf l p.2) (n : Int) = true ∧ z = fdR (evf l p.1).fn (evf l p.1).pc (evf l p.2).fn (evf l p.2).pc (n : Int)
  | 0 => by simp [ouF]
  | k + 1 => by
    have ih := ouF_mem vars l D z k
    unfold ouF
    split
    · rename_i p hp
      rw [inF_mem, ih]
      constructor
      · rintro (⟨i, q, h1, h2, h3⟩ | h)
        · exact ⟨i, q, by omega, h2, h3⟩
        · exact ⟨k, p, by omega, hp, h⟩
      · rintro ⟨i, q, h1, h2, h3⟩
        by_cases e : i = k
        · subst e
          rw [hp] at h2
          cases h2
          exact .inr h3
        · exact .inl ⟨i, q, by omega, h2, h3⟩
    · rename_i hp
      rw [ih]
      constructor
      · rintro ⟨i, q, h1, h2, h3⟩
        exact ⟨i, q, by omega, h2, h3⟩
      · rintro ⟨i, q, h1, h2, h3⟩
        by_cases e : i = k
        · subst e; rw [hp] at h2; cases h2
        · exact ⟨i, q, by omega, h2, h3⟩
end Go.Proofs.YtafefnkgdnmjbaaGreatDoor.pg
/- Which plain variables two events race upon: package race's way and the document's tell the same. -/
namespace Go.Proofs.YtafefnkgdnmjbaaGreatDoor.pg
open Go.ChangeShapes Go.WideShapes Go.ChangeAt Go.RowKit Go.Shelf
set_option linter.unusedVariables false
set_option linter.unusedSimpArgs false
theorem of_one {x : Ev} (hx : rightP x) {a b : Acc} (ha : a ∈ x.of) (hb : b ∈ x.of) (h1 : a.kind = b.kind) (h2 : a.num = b.num) : a = b := by
  obtain ⟨i, hi⟩ := List.mem_iff_getElem?.mp ha
  obtain ⟨j, hj⟩ := List.mem_iff_getElem?.mp hb
  rcases Nat.lt_trichotomy i j with q | q | q
  · exact (right_uniq hx q hi hj h1 h2).elim
  · subst q; rw [hi] at hj; exact Option.some.inj hj
  · exact (right_uniq hx q hj hi h1.symm h2.symm).elim
theorem of_num {x : Ev} (hx : rightP x) {a : Acc} (ha : a ∈ x.of) : 0 ≤ a.num := by
  obtain ⟨i, hi⟩ := List.mem_iff_getElem?.mp ha
  have hlt := (List.getElem?_eq_some_iff.mp hi).1
  rw [Ev.of_len] at hlt
  rw [of_at hlt] at hi
  exact (hx.2.1 i hlt a hi).1.1
theorem tou_is {x : Ev} (hx : rightP x) {a : Acc} (ha : a ∈ x.of) (hk : a.kind = 1) : touP x 1 a.num = if a.wr = true then 2 else 1 := by
  unfold touP
  have hh : hitP 1 a.num a = true := by unfold hitP; rw [hk]; simp
  cases h : x.of.find? (hitP 1 a.num) with
  | none => exact absurd hh (by rw [List.find?_eq_none] at h; exact h a ha)
  | some b =>
    have hb := List.mem_of_find?_eq_some h
    have hb2 := List.find?_some h
    unfold hitP at hb2
    rw [Bool.and_eq_true, beq_iff_eq, beq_iff_eq] at hb2
    have : b = a := of_one hx hb ha (by rw [hb2.1, hk]) hb2.2
    rw [this]
theorem tou_some {x : Ev} {n : Int} (h : 0 < touP x 1 n) : ∃ a ∈ x.of, a.kind = 1 ∧ a.num = n := by
  unfold touP at h
  cases hf : x.of.find? (hitP 1 n) with
  | none => rw [hf] at h; simp at h
  | some b =>
    have hb2 := List.find?_some hf
    unfold hitP at hb2
    rw [Bool.and_eq_true, beq_iff_eq, beq_iff_eq] at hb2
    exact ⟨b, List.mem_of_find?_eq_some hf, hb2.1, hb2.2⟩
theorem plV_plI (vars : List Vr) {n : Int} (h : 0 ≤ n) : plV vars n.toNat = plI vars n := by
  unfold plV plK plI
  have e1 : decide (0 ≤ n) = true := by simpa using h
  have e2 : decide (n < (vars.length : Int)) = decide (n.toNat < vars.length) := by
    by_cases q : n.toNat < vars.length
    · rw [decide_eq_true q]; simp; omega
    · rw [decide_eq_false q]; simp; omega
  rw [e1, e2, Bool.true_and]
  rfl
theorem race_upon {vars : List Vr} {x y : Ev} (hx : rightP x) (hy : rightP y) (n : Int) : (∃ a ∈ x.of, upB (plV vars) y a = true ∧ a.num = n) ↔ ∃ k, k < vars.length ∧ n = (k : Int) ∧ shP vars x y (k : Int) = true := by
  constructor
  · rintro ⟨a, ha, hu, rfl⟩
    unfold upB hasP at hu
    rw [Bool.and_eq_true, Bool.and_eq_true, beq_iff_eq] at hu
    obtain ⟨⟨hk, hv⟩, hc⟩ := hu
    have hn := of_num hx ha
    have hlt : a.num.toNat < vars.length := by
      unfold plV plK at hv
      rw [Bool.and_eq_true] at hv
      simpa using hv.1
    have e : ((a.num.toNat : Nat) : Int) = a.num := by omega
    refine ⟨a.num.toNat, hlt, e.symm, ?_⟩
    rw [e]
    rw [plV_plI vars hn] at hv
    unfold clash at hc
    simp only [List.any_cons, List.any_nil, Bool.or_false] at hc
    obtain ⟨b, hb, hm⟩ := List.any_eq_true.mp hc
    unfold meets at hm
    simp only [Bool.and_eq_true, Bool.or_eq_true, beq_iff_eq] at hm
    obtain ⟨⟨hk2, hn2⟩, hw⟩ := hm
    have t1 := tou_is hx ha hk
    have t2 := tou_is hy hb (by rw [← hk2, hk])
    rw [← hn2] at t2
    unfold shP
    rw [hv, t1, t2]
    rcases hw with hw | hw
    · rw [hw]; cases b.wr <;> decide
    · rw [hw]; cases a.wr <;> decide
  · rintro ⟨k, hlt, rfl, hs⟩
    unfold shP at hs
    simp only [Bool.and_eq_true, decide_eq_true_eq] at hs
    obtain ⟨hp, h1, h2, h3⟩ := hs
    obtain ⟨a, ha, hak, han⟩ := tou_some h1
    obtain ⟨b, hb, hbk, hbn⟩ := tou_some h2
    refine ⟨a, ha, ?_, han⟩
    have t1 := tou_is hx ha hak
    have t2 := tou_is hy hb hbk
    rw [han] at t1
    rw [hbn] at t2
    rw [t1, t2] at h3
    unfold upB hasP
    rw [hak, han]
    have hpv : plV vars ((k : Int)).toNat = true := by rw [plV_plI vars (by omega)]; exact hp
    rw [hpv]
    have hc : clash [a] y.of = true := clash_true (x := a) (by simp) hb (by
      have hw : (a.wr || b.wr) = true := by
        cases ha' : a.wr with
        | true => rfl
        | false =>
          cases hb' : b.wr with
          | true => rfl
          | false => rw [ha', hb'] at h3; simp at h3
      unfold meets
      rw [hak, hbk, han, hbn, hw]
      simp)
    rw [hc]
    rfl
theorem any_upon {vars : List Vr} {x y : Ev} (hx : rightP x) (hy : rightP y) : clP (plV vars) x y = anyB vars x y := by
  rw [Bool.eq_iff_iff]
  constructor
  · intro h
    obtain ⟨a, ha, hu⟩ := List.any_eq_true.mp h
    obtain ⟨k, h1, _, h3⟩ := (race_upon (vars := vars) hx hy a.num).mp ⟨a, ha, hu, rfl⟩
    exact anyB_hit h1 h3
  · intro h
    obtain ⟨k, hk, hs⟩ := List.any_eq_true.mp h
    obtain ⟨a, ha, hu, _⟩ := (race_upon (vars := vars) hx hy (k : Int)).mpr ⟨k, List.mem_range.mp hk, rfl, hs⟩
    exact List.any_eq_true.mpr ⟨a, ha, hu⟩
theorem upK_mem {v : Nat → Bool} {x y : Ev} {n : Int} : n ∈ upK v x y 6 ↔ ∃ a ∈ x.of, upB v y a = true ∧ a.num = n := by
  have hl : x.of.length ≤ 6 := by rw [Ev.of_len]; exact tN_le _
  unfold upK
  rw [List.take_of_length_le hl, List.mem_map]
  constructor
  · rintro ⟨a, ha, e⟩
    rw [List.mem_filter] at ha
    exact ⟨a, ha.1, ha.2, e⟩
  · rintro ⟨a, h1, h2, e⟩
    exact ⟨a, List.mem_filter.mpr ⟨h1, h2⟩, e⟩
/-- The data races are the same. -/
theorem data_one {vars : List Vr} {l : List Ev} (hrt : ∀ x ∈ l, rightP x) {B : Nat → Nat → Bool} : rcL B l (daF vars l) = (rcL B l fun _ _ => true).filter fun p => anyB vars (evf l p.1) (evf l p.2) := by
  unfold rcL
  rw [List.filter_filter]
  refine List.filter_congr fun p hp => ?_
  obtain ⟨q1, q2⟩ := edL_in hp
  have h1 := hrt _ (List.mem_of_getElem? (evf_at (l := l) (i := p.1) (by omega)))
  have h2 := hrt _ (List.mem_of_getElem? (evf_at (l := l) (i := p.2) q2))
  unfold rcF daF
  rw [any_upon h1 h2, Bool.and_true, Bool.and_comm]
/-- What is found is the same. -/
theorem found_one {vars : List Vr} {l : List Ev} (hrt : ∀ x ∈ l, rightP x) {B : Nat → Nat → Bool} {D : List Fd} (hp : D.Perm (gaL (plV vars) l (rcL B l fun _ _ => true))) (hs : D.Pairwise fun x y => cmp3 x y ≤ 0)
    {E : List (Nat × Nat)} (hE : E = (rcL B l fun _ _ => true).filter fun p => anyB vars (evf l p.1) (evf l p.2)) : cpt D = ouF vars l E E.length := by
  have hin : ∀ p ∈ rcL B l (fun _ _ => true), p.1 < p.2 ∧ p.2 < l.length := fun p hp => edL_in (List.mem_filter.mp hp).1
  have hk : ∀ x ∈ D, oneKind x := fun x hx => by
    have := hp.mem_iff.mp hx
    unfold gaL at this
    rw [List.mem_flatMap] at this
    obtain ⟨p, _, h⟩ := this
    unfold gaP at h
    rw [List.mem_map] at h
    obtain ⟨n, _, rfl⟩ := h
    exact fdR_kind _ _ _ _ _
  obtain ⟨c1, c2⟩ := cpt_rise D.length D rfl hk hs
  have hR := ouF_Rise vars l E E.length
  refine rise_ext (R := fun x y => cmp3 x y < 0) (fun x h => by have := cmp3_self x; omega) (fun x y z h1 h2 => cmp3_lt_le h1 (by omega)) c1 hR.2 fun x => ?_
  rw [c2 x, hp.mem_iff, ouF_mem]
  unfold gaL
  rw [List.mem_flatMap]
  constructor
  · rintro ⟨p, hpm, h⟩
    obtain ⟨q1, q2⟩ := hin p hpm
    have h1 := hrt _ (List.mem_of_getElem? (evf_at (l := l) (i := p.1) (by omega)))
    have h2 := hrt _ (List.mem_of_getElem? (evf_at (l := l) (i := p.2) q2))
    unfold gaP at h
    rw [List.mem_map] at h
    obtain ⟨n, hn, rfl⟩ := h
    obtain ⟨k, k1, rfl, k3⟩ := (race_upon (vars := vars) h1 h2 n).mp (upK_mem.mp hn)
    have hmE : p ∈ E := by rw [hE]; exact List.mem_filter.mpr ⟨hpm, anyB_hit k1 k3⟩
    obtain ⟨i, hi⟩ := List.mem_iff_getElem?.mp hmE
    exact ⟨i, p, (List.getElem?_eq_some_iff.mp hi).1, hi, k, k1, k3, rfl⟩
  · rintro ⟨i, p, hi, hpi, k, k1, k3, rfl⟩
    have hmE := List.mem_of_getElem? hpi
    rw [hE] at hmE
    have hpm := (List.mem_filter.mp hmE).1
    obtain ⟨q1, q2⟩ := hin p hpm
    have h1 := hrt _ (List.mem_of_getElem? (evf_at (l := l) (i := p.1) (by omega)))
    have h2 := hrt _ (List.mem_of_getElem? (evf_at (l := l) (i := p.2) q2))
    refine ⟨p, hpm, ?_⟩
    unfold gaP
    exact List.mem_map.mpr ⟨(k : Int), upK_mem.mpr ((race_upon (vars := vars) h1 h2 (k : Int)).mpr ⟨k, k1, rfl, k3⟩), rfl⟩
end Go.Proofs.YtafefnkgdnmjbaaGreatDoor.pg
