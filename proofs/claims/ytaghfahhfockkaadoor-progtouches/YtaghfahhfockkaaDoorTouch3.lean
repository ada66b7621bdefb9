/- What an instruction reads and sets: the contract of package prog's touched. -/
import Derived.Test.YtaghfahhfockkaaDoorTouch2
import Derived.Test.YtaghfahhfockkaaDoorChk7
namespace Go.Proofs.YtaghfahhfockkaaDoor.pg
open Go.ChangeShapes Go.WideShapes Go.ChangeAt Go.RowKit
set_option linter.unusedVariables false
set_option linter.unusedSimpArgs false
set_option maxRecDepth 100000
attribute [local go_sem ↓] Go.wp_at_zero Go.wp_at_succ
abbrev set8 (w : World) (B : Nat) (m : Nat → Bool) : World :=
  (((((((w.setCell ⟨B, 0, none⟩ (.bool (m 0))).setCell ⟨B, 1, none⟩ (.bool (m 1))).setCell ⟨B, 2, none⟩ (.bool (m 2))).setCell ⟨B, 3, none⟩ (.bool (m 3))).setCell ⟨B, 4, none⟩ (.bool (m 4))).setCell ⟨B, 5, none⟩ (.bool (m 5))).setCell ⟨B, 6, none⟩ (.bool (m 6))).setCell ⟨B, 7, none⟩ (.bool (m 7))
theorem set8_other (w : World) (B : Nat) (m : Nat → Bool) (b : Nat) (hb : b ≠ B) : (set8 w B m).heap[b]? = w.heap[b]? := by
  simp only [set8, heap_setCell_other _ _ _ _ (show b ≠ (⟨B, _, none⟩ : Addr).block from hb)]
theorem set8_at {w : World} {B : Nat} {l l' : List Int} (h : MBox w B l) : MBox (set8 w B (inl l')) B l' := by
  unfold MBox
  have h0 := set4 w B 0 _ _ (.bool (inl l' 0)) h
  have h1 := set4 _ B 1 _ _ (.bool (inl l' 1)) h0
  have h2 := set4 _ B 2 _ _ (.bool (inl l' 2)) h1
  have h3 := set4 _ B 3 _ _ (.bool (inl l' 3)) h2
  have h4 := set4 _ B 4 _ _ (.bool (inl l' 4)) h3
  have h5 := set4 _ B 5 _ _ (.bool (inl l' 5)) h4
  have h6 := set4 _ B 6 _ _ (.bool (inl l' 6)) h5
  have h7 := set4 _ B 7 _ _ (.bool (inl l' 7)) h6
  rw [h7]
  simp
theorem set8_below {w0 w : World} {B n : Nat} (m : Nat → Bool) (h : Below n w0 w) (hB : n ≤ B) : Below n w0 (set8 w B m) :=
  (((((((h.setCell (p := ⟨B, 0, none⟩) hB (.bool (m 0))).setCell (p := ⟨B, 1, none⟩) hB (.bool (m 1))).setCell (p := ⟨B, 2, none⟩) hB (.bool (m 2))).setCell (p := ⟨B, 3, none⟩) hB (.bool (m 3))).setCell (p := ⟨B, 4, none⟩) hB (.bool (m 4))).setCell (p := ⟨B, 5, none⟩) hB (.bool (m 5))).setCell (p := ⟨B, 6, none⟩) hB (.bool (m 6))).setCell (p := ⟨B, 7, none⟩) hB (.bool (m 7))
abbrev objM0 : Obj := .cells #[.bool false, .bool false, .bool false, .bool false, .bool false, .bool false, .bool false, .bool false] 54
theorem objM_nil : objM (inl []) = objM0 := by simp only [objM, marksA, inl_nil]
theorem LSt.all {M : MPr} {i : Ins} {w : World} {I A : Nat} {r s r' s' : List Int} {wr : World} (st : LSt M i w I A r s wr) : LSt M i w I A r' s' (set8 (set8 wr (w.heap.size + 1) (inl r')) (w.heap.size + 1 + 1) (inl s')) := by
  have hI := st.hI
  have hA := st.hA
  have hk : ∀ b, b ≠ w.heap.size + 1 → b ≠ w.heap.size + 1 + 1 → (set8 (set8 wr (w.heap.size + 1) (inl r')) (w.heap.size + 1 + 1) (inl s')).heap[b]? = wr.heap[b]? := fun b h1 h2 => (set8_other _ _ _ b h2).trans (set8_other _ _ _ b h1)
  exact ⟨set8_below _ (set8_below _ st.be (Nat.le_succ _)) (le2 _), st.bp.keep (hk _ (by omega) (by omega)), (set8_at st.m1).keep (set8_other _ _ _ _ (by omega)), set8_at (st.m2.keep (set8_other _ _ _ _ (by omega))), st.bi.keep (hk _ (by omega) (by omega)), st.bx.keep (hk _ (by omega) (by omega)), hI, hA⟩
set_option maxHeartbeats 4000000 in
theorem touched_any (M : MPr) (f pc : Nat) (F : MFn) (i : Ins) (w : World) (hl : M.lies w) (hF : prog.Forms w) (hr : (chk insP M.pr).1 = 0) (hf : M.fns[f]? = some F) (hi : F.code[pc]? = some i) :
    Calls Tryd.prog 18 #[M.val, .int .i64 f, .int .i64 pc] w fun e w' => e = .returned (.tuple #[marksV (inl (touchTo M.pr F.fn i 4).1), marksV (inl (touchTo M.pr F.fn i 4).2), .int .i64 0]) ∧ Below w.heap.size w w' := by
  obtain ⟨b, c, hc⟩ : ∃ b c, Hid (chk insP M.pr = (0, b, c)) := ⟨(chk insP M.pr).2.1, (chk insP M.pr).2.2, by show _ = _; rw [← hr]⟩
  have hFm : F ∈ M.fns := List.mem_of_getElem? hf
  have him : i ∈ F.code := List.mem_of_getElem? hi
  have hFp : F.fn ∈ M.pr.fns := by simp only [MPr.pr, List.mem_map]; exact ⟨F, hFm, rfl⟩
  have hsh := chk_shaped hr F.fn hFp
  obtain ⟨hsel, hcode, _⟩ := chk_parts hr F.fn hFp
  have hins : insP M.pr F.fn i = 0 := hcode i him
  have hkn := ins_known hins
  have hop := ins_opnds hins
  have hwf := (hl.2.2.2.2.2.2 F hFm).2.2.1 i him
  have hfl : f < M.fns.length := (List.getElem?_eq_some_iff.mp hf).1
  have hpl : pc < F.code.length := (List.getElem?_eq_some_iff.mp hi).1
  have hfI : (M.fns.length : Int) ≤ 9223372036854775807 := rows_len hl.2.2.1
  have hpI : (F.code.length : Int) ≤ 9223372036854775807 := rows_len (hl.2.2.2.2.2.2 F hFm).1
  have hb3 := boxed3 w (objP M) objM0 objM0
  have bP : BoxP (((w.alloc (objP M)).alloc objM0).alloc objM0) w.heap.size M := ((boxP_new w M).later (boxed _ _)).later (boxed _ _)
  have m1 : MBox (((w.alloc (objP M)).alloc objM0).alloc objM0) (w.heap.size + 1) [] := MBox.later (l := []) (by unfold MBox; rw [objM_nil]; have := heap_alloc_new (w.alloc (objP M)) objM0; rwa [World.size_alloc] at this) (boxed _ _)
  have m2 : MBox (((w.alloc (objP M)).alloc objM0).alloc objM0) (w.heap.size + 1 + 1) [] := by
    unfold MBox; rw [objM_nil]; have := heap_alloc_new ((w.alloc (objP M)).alloc objM0) objM0; simpa only [World.size_alloc] using this
  have hcall := check_any M _ (hl.later hb3) (hF.later hb3) 0 b c hc
  have hs1 : ∀ wx, Calls Tryd.prog 36 #[.int .i64 (f : Int), .int .i64 (M.fns.length : Int)] wx _ := fun wx => below_t f M.fns.length wx (by omega)
  have hs2 : ∀ wx, Calls Tryd.prog 36 #[.int .i64 (pc : Int), .int .i64 (F.code.length : Int)] wx _ := fun wx => below_t pc F.code.length wx (by omega)
  have hLw : Hid (M.lies w) := hl
  have hFw : Hid (prog.Forms w) := hF
  clear hl hF
  go_enter Tryd.func18, Tryd.ntmps18
  go_upto_region 7 with (first
    | (go_at_call 22; (with_reducible refine hcall.mono ?_); rintro e w2 ⟨rfl, hb2⟩; obtain ⟨p0, p1, p2, p3⟩ := bP.later hb2; (have hw2 : Below w.heap.size w w2 := bthen hb3 hb2); (have hz2 : w.heap.size < w2.heap.size := (bP.later hb2).lt); obtain ⟨fb, fo, hfix, hfbl, fc0, fc1, fc2, fc3⟩ := fn_ix (hLw.out.later hw2).2.2.1 f F hf; obtain ⟨ib, io, hiix, hibl, ic0, ic1, ic2, ic3, ic4⟩ := ins_ix ((hLw.out.later hw2).2.2.2.2.2.2 F hFm).1 pc i hi)
    | (go_at_call 36; (with_reducible refine (hs1 _).mono ?_); rintro e w3 ⟨rfl, rfl⟩)
    | (go_at_call 36; (with_reducible refine (hs2 _).mono ?_); rintro e w3 ⟨rfl, rfl⟩))
  obtain ⟨W, hW⟩ : ∃ W, W = (w2.alloc (Obj.cells #[.int .i64 b, .int .i64 c] 66)).alloc (objI i) := ⟨_, rfl⟩
  have h2W : Below w2.heap.size w2 W := by rw [hW]; exact boxed2 _ _ _
  have hbI : Hid (BoxI W (w2.heap.size + 1) i) := by
    show BoxI _ _ _
    rw [hW]; have := boxI_new (w2.alloc (Obj.cells #[.int .i64 b, .int .i64 c] 66)) i; rwa [World.size_alloc] at this
  have hwW : Below w.heap.size w W := bthen hw2 h2W
  have hPW : Hid (BoxP W w.heap.size M) := (bP.later hb2).later h2W
  have hm1 : Hid (MBox W (w.heap.size + 1) []) := (m1.later hb2).later h2W
  have hm2 : Hid (MBox W (w.heap.size + 1 + 1) []) := (m2.later hb2).later h2W
  have hz : w.heap.size + 1 + 1 < w2.heap.size := (m2.later hb2).lt
  have hzW : w2.heap.size < W.heap.size := by have := h2W.size; have := hbI.out.lt; omega
  rw [← hW]
  generalize hI : w2.heap.size + 1 = I at *
  have hII : w.heap.size + 1 + 1 < I := by omega
  clear hW bP m1 m2 hcall hb3 p0 p1 p2 p3 fc0 fc1 fc2 fc3 ic0 ic1 ic2 ic3 ic4 hibl hfbl hs1 hs2 hz2 h2W hb2 hw2 hzW
  obtain ⟨S, hFm'⟩ : ∃ S, Hid (prog.frm i.op = S) := ⟨_, rfl⟩
  obtain ⟨i0, i1, i2, i3, i4⟩ := hbI.out
  have hFW : Hid (prog.Forms W) := hFw.out.later hwW
  have hop0 : I64 i.op := hwf.1
  go_cut [12, 13] (fun u7 u8 wx => ∃ A, u7 = .string S ∧ u8 = .pointer (some ⟨A, 0, none⟩) ∧ BoxX wx A i ∧ W.heap.size ≤ A ∧ Below W.heap.size W wx)
  case first =>
    go_region_held3 (fun w' => w'.cell? ⟨I, 0, none⟩ = some (.int .i64 i.op) ∧ w'.cell? ⟨I, 1, none⟩ = some (.int .i64 i.a) ∧ w'.cell? ⟨I, 2, none⟩ = some (.int .i64 i.b) ∧ w'.cell? ⟨I, 3, none⟩ = some (.int .i64 i.c) ∧ w'.cell? ⟨I, 4, none⟩ = some (.int .i64 i.n) ∧ Below W.heap.size W w') ((refine keepI hbI.out ?_; repeat (first | exact keepO (by assumption) | assumption | exact Below.refl _ _ | refine Below.drew ?_ | refine b_alloc ?_ _ | (refine Below.setCell ?_ (by simp only [World.size_alloc, World.size_drew]; omega) _))))
      (first | (go_at_call 13; refine (prog.form_any i.op hop0.1 hop0.2 _ (hFW.out.later (by first | exact keepO (by assumption) | exact (Below.refl _ _).drew)) S hFm'.out).mono ?_; rintro e w' ⟨rfl, rfl⟩) | (go_at_call 37; refine (operands_any i _).mono ?_; rintro e w' ⟨rfl, hb2⟩; obtain ⟨hbc, hbf⟩ := bcell hb2; have hBW : Below W.heap.size W w' := bthen (by first | exact keepO (by assumption) | exact (Below.refl _ _).drew) hb2; have hBs := hBW.size))
    · go_wp2_with fail
      go_meet
      case rel => exact ⟨_, rfl, rfl, ⟨by simp [go_sem], by simp [go_sem], by simp [go_sem], by simp [go_sem]⟩, hBs, b_alloc hBW _⟩
    all_goals
      go_wp2_with fail
      go_meet
      case rel =>
        have hA : ∀ j, j < 4 → w'.cell? ⟨W.heap.size, j, none⟩ = some (.int .i64 0) := fun j hj => by
          refine cell_later hb2 ?_
          show (W.alloc _).cell? _ = _
          rw [World.cell?_alloc_at _ _ _ _ rfl]
          match j, hj with
          | 0, _ => rfl
          | 1, _ => rfl
          | 2, _ => rfl
          | 3, _ => rfl
        exact ⟨_, rfl, rfl, boxX_set (hA 0 (by omega)) (hA 1 (by omega)) (hA 2 (by omega)) (hA 3 (by omega)), Nat.le_refl _, (((hBW.setCell (Nat.le_refl _) _).setCell (Nat.le_refl _) _).setCell (Nat.le_refl _) _).setCell (Nat.le_refl _) _⟩
  case rest =>
    obtain ⟨A, rfl, rfl, hX, hAW, hWc⟩ := hcut
    have hzz := hwW.size
    have hIW := hbI.out.lt
    have st0 : LSt M i w I A [] [] wc := ⟨bthen hwW hWc, hPW.out.later hWc, hm1.out.later hWc, hm2.out.later hWc, hbI.out.later hWc, hX, hII, by omega⟩
    have hS4 : S.size = 4 := frm_four hFm'.out hkn
    have hS := fun k (h4 : k < 4) => str_ix hFm'.out hkn k h4
    have h8 : F.regs ≤ 8 := hsh.1.2
    have hf64 : I64 i.b := hwf.2.2.1
    have hi64 : I64 i.c := hwf.2.2.2.1
    have hpar : ∀ y ∈ M.fns, 0 ≤ y.params ∧ y.params ≤ 8 := fun y hy => by
      have := chk_shaped hr y.fn (by simp only [MPr.pr, List.mem_map]; exact ⟨y, hy, rfl⟩)
      exact ⟨this.2.1.1, Int.le_trans this.2.1.2 this.1.2⟩
    have hreg : ∀ k, k < 4 → (lt i.op k = 114 ∨ lt i.op k = 119) → ∃ x : Nat, i.x k = (x : Int) ∧ x < 8 := fun k h4 hL => by
      have h : inR (i.x k) F.regs := opnd_r (hop k h4) hL
      exact ⟨(i.x k).toNat, by omega, by omega⟩
    clear hbI hPW hm1 hm2 hX hAW hWc hwW i0 i1 i2 i3 i4 hIW hzz hII hFW hwf hsh hcode hop0 hkn hFm'
    go_wp2_with fail
    go_loopw [62] (fun u wr => ∃ k : Nat, k ≤ 4 ∧ u = .int .i64 k ∧ LSt M i w I A (touchTo M.pr F.fn i k).1 (touchTo M.pr F.fn i k).2 wr) (fun u _ => 4 - (intOf u).toNat)
    case atStart => exact ⟨0, Nat.zero_le _, rfl, st0⟩
    case round =>
      clear st0
      obtain ⟨k, hk, rfl, st⟩ := hrel
      by_cases hlt : k < 4
      · have hsx := hS k hlt
        have hox := opnd_at A k hlt
        have hxc := st.bx.cell k hlt
        have hopk := hop k hlt
        obtain ⟨p0, p1, p2, p3⟩ := st.bp
        obtain ⟨i0, i1, i2, i3, i4⟩ := st.bi
        have hz1 : w.heap.size + 1 < wr.heap.size := st.m1.lt
        have hz2 : w.heap.size + 1 + 1 < wr.heap.size := st.m2.lt
        have hstep : Hid (touchTo M.pr F.fn i (k + 1) = tstep M.pr F.fn i k (touchTo M.pr F.fn i k)) := rfl
        obtain ⟨r, hR⟩ : ∃ r, Hid ((touchTo M.pr F.fn i k).1 = r) := ⟨_, rfl⟩
        obtain ⟨s, hT⟩ : ∃ s, Hid ((touchTo M.pr F.fn i k).2 = s) := ⟨_, rfl⟩
        rw [hR.out, hT.out] at st
        have hkI : (k : Int) < 4 := by omega
        by_cases h114 : lt i.op k = 114
        · obtain ⟨x, hx, hx8⟩ := hreg k hlt (.inl h114)
          rw [h114] at hsx
          rw [hx] at hxc
          have hx0 : Hid (i.x k = (x : Int)) := hx
          have hl0 : Hid (lt i.op k = 114) := h114
          clear hreg hop hopk hS hx h114
          by_cases hk0 : k = 0 ∧ firstSet i.op
          · obtain ⟨hk0, hfs⟩ := hk0
            have E : Hid (touchTo M.pr F.fn i (k + 1) = (r, s ++ [(x : Int)])) := by
              show _ = _
              rw [hstep.out, tstep, if_pos hl0.out, if_pos ⟨hk0, hfs⟩, hx0.out, hR.out, hT.out]
            have hcs : ∀ wx, Calls Tryd.prog 38 #[.int .i64 i.op] wx _ := fun wx => setsFirst_any i.op wx true (decide_eq_true hfs)
            have hma := mark_at (w.heap.size + 1 + 1) x hx8
            have hcl := st.m2.cell x hx8
            have hfr := st.m2.free x
            clear hfs hstep hR hT hx0 hl0
            subst hk0
            have hsx0 : ∀ wx, (Instr.index 9 (.string S) (.int .i64 0)).run Tryd.prog wx = .ok (.int .u8 114) wx := hsx
            have hox0 : ∀ wx, (Instr.indexAt 95 (.pointer (some ⟨A, 0, none⟩)) (.int .i64 0)).run Tryd.prog wx = .ok (.pointer (some ⟨A, 0, none⟩)) wx := hox
            clear hsx hox
            go_wp2_with (go_at_call 38; (with_reducible refine (hcs _).mono ?_); rintro e w' ⟨rfl, rfl⟩)
            go_roundw
            case rel => exact ⟨0 + 1, by omega, by go_num, by rw [E.out]; exact st.put2 hx8⟩
            case measure => simp [intOf]
          · have E : Hid (touchTo M.pr F.fn i (k + 1) = (r ++ [(x : Int)], s)) := by
              show _ = _
              rw [hstep.out, tstep, if_pos hl0.out, if_neg hk0, hx0.out, hR.out, hT.out]
            have hma := mark_at (w.heap.size + 1) x hx8
            have hcl := st.m1.cell x hx8
            have hfr := st.m1.free x
            by_cases hkz : k = 0
            · have hcs : ∀ wx, Calls Tryd.prog 38 #[.int .i64 i.op] wx _ := fun wx => setsFirst_any i.op wx false (decide_eq_false fun q => hk0 ⟨hkz, q⟩)
              clear hstep hR hT hx0 hl0 hk0
              subst hkz
              have hsx0 : ∀ wx, (Instr.index 9 (.string S) (.int .i64 0)).run Tryd.prog wx = .ok (.int .u8 114) wx := hsx
              have hox0 : ∀ wx, (Instr.indexAt 95 (.pointer (some ⟨A, 0, none⟩)) (.int .i64 0)).run Tryd.prog wx = .ok (.pointer (some ⟨A, 0, none⟩)) wx := hox
              clear hsx hox
              go_wp2_with (go_at_call 38; (with_reducible refine (hcs _).mono ?_); rintro e w' ⟨rfl, rfl⟩)
              go_roundw
              case rel => exact ⟨0 + 1, by omega, by go_num, by rw [E.out]; exact st.put1 hx8⟩
              case measure => simp [intOf]
            · clear hstep hR hT hx0 hl0 hk0
              have hkp : ¬ (k : Int) = 0 := by omega
              go_wp2
              go_roundw
              case rel => exact ⟨k + 1, by omega, by go_num, by rw [E.out]; exact st.put1 hx8⟩
              case measure => simp [intOf]; omega
        · have hl0 : Hid (¬ lt i.op k = 114) := h114
          by_cases h119 : lt i.op k = 119
          · obtain ⟨x, hx, hx8⟩ := hreg k hlt (.inr h119)
            rw [h119] at hsx
            have E : Hid (touchTo M.pr F.fn i (k + 1) = (r ++ [(x : Int)], s)) := by
              show _ = _
              rw [hstep.out, tstep, if_neg h114, if_pos h119, hx, hR.out, hT.out]
            rw [hx] at hxc
            have hma := mark_at (w.heap.size + 1) x hx8
            have hcl := st.m1.cell x hx8
            have hfr := st.m1.free x
            clear hreg hop hopk hS hx h114 h119 hstep hR hT hl0
            go_wp2
            go_roundw
            case rel => exact ⟨k + 1, by omega, by go_num, by rw [E.out]; exact st.put1 hx8⟩
            case measure => simp [intOf]; omega
          · by_cases h111 : lt i.op k = 111
            · rw [h111] at hsx hopk
              by_cases hm1 : i.x k = -1
              · have E : Hid (touchTo M.pr F.fn i (k + 1) = (r, s)) := by
                  show _ = _
                  rw [hstep.out, tstep, if_neg h114, if_neg h119, if_pos h111, if_pos hm1, ← hR.out, ← hT.out]
                rw [hm1] at hxc
                clear hreg hop hopk hS hm1 h114 h119 h111 hstep hR hT hl0
                go_wp2
                go_roundw
                case rel => exact ⟨k + 1, by omega, by go_num, by rw [E.out]; exact st⟩
                case measure => simp [intOf]; omega
              · have hin : inR (i.x k) F.regs := by rcases opnd_o hopk with h | h; exact absurd h hm1; exact h
                obtain ⟨x, hx, hx8⟩ : ∃ x : Nat, i.x k = (x : Int) ∧ x < 8 := ⟨(i.x k).toNat, by omega, by omega⟩
                have E : Hid (touchTo M.pr F.fn i (k + 1) = (r, s ++ [(x : Int)])) := by
                  show _ = _
                  rw [hstep.out, tstep, if_neg h114, if_neg h119, if_pos h111, if_neg hm1, hR.out, hT.out, hx]
                rw [hx] at hxc
                have hne : ((x : Int) != -1) = true := by simp
                have hma := mark_at (w.heap.size + 1 + 1) x hx8
                have hcl := st.m2.cell x hx8
                have hfr := st.m2.free x
                clear hreg hop hopk hS hm1 h114 h119 h111 hstep hR hT hl0 hx hin
                go_wp2
                go_roundw
                case rel => exact ⟨k + 1, by omega, by go_num, by rw [E.out]; exact st.put2 hx8⟩
                case measure => simp [intOf]; omega
            · by_cases h112 : lt i.op k = 112
              · obtain ⟨hk2, h102⟩ := p_where i.op k h112
                have hbr : inR i.b (M.pr.fns.length : Int) := by have h := hop 1 (by omega); rw [h102] at h; exact opnd_f h
                have hbr' : 0 ≤ i.b ∧ i.b < (M.fns.length : Int) := by simpa [MPr.pr] using hbr
                obtain ⟨y, hy, hym⟩ := get_lt M.fns i.b.toNat (by omega)
                have hyp := hpar y hym
                have hpy : M.pr.par i.b = y.params := by unfold Pr.par; rw [fns_get M _ y hy]; rfl
                have hrm : roomP (M.pr.par i.b) i.c F.fn.regs := by rw [h112] at hopk; exact opnd_p hopk
                rw [hpy] at hrm
                have hrf := room_from hrm hyp.1
                obtain ⟨n, hn⟩ : ∃ n : Nat, y.params = (n : Int) := ⟨y.params.toNat, by omega⟩
                obtain ⟨nb, hnb⟩ : ∃ nb : Nat, i.b = (nb : Int) := ⟨i.b.toNat, by omega⟩
                obtain ⟨cx, hcx⟩ : ∃ cx : Nat, i.c = (cx : Int) := ⟨i.c.toNat, by omega⟩
                have h88 : F.fn.regs ≤ 8 := h8
                have hcn : n = 0 ∨ cx + n ≤ 8 := by omega
                have E : Hid (touchTo M.pr F.fn i (k + 1) = (r ++ from_ i.c n, s)) := by
                  show _ = _
                  rw [hstep.out, tstep, if_neg h114, if_neg h119, if_neg h111, if_pos h112, hpy, hn, hR.out, hT.out]; rfl
                rw [h112] at hsx
                rw [hnb] at i2
                rw [hcx] at E
                have hyn : M.fns[nb]? = some y := by rw [← hy, hnb]; rfl
                obtain ⟨yb, yo, hyix, hybl, yc0, yc1, yc2, yc3⟩ := fn_ix (hLw.out.later st.be).2.2.1 nb y hyn
                rw [hn] at yc0
                clear hreg hop hopk hS hstep hR hT hl0 hrm hrf hpy h112 h111 h119 h114 hbr hbr' hyp hn hnb hk2 h102 i0 i1 i3 i4 p0 p1 p2
                go_wp2_with fail
                go_loopw [103] (fun u wx => ∃ j : Nat, j ≤ n ∧ u = .int .i64 j ∧ LSt M i w I A (r ++ from_ (cx : Int) j) s wx) (fun u _ => n - (intOf u).toNat)
                case atStart => exact ⟨0, Nat.zero_le _, rfl, by simpa [from_] using st⟩
                case round =>
                  obtain ⟨j, hj, rfl, stj⟩ := hrel
                  by_cases hjn : j < n
                  · have hx8 : cx + j < 8 := by omega
                    have hma : ∀ wx, (Instr.indexAt 54 (.pointer (some ⟨w.heap.size + 1, 0, none⟩)) (.int .i64 ((cx : Int) + (j : Int)))).run Tryd.prog wx = .ok (.pointer (some ⟨w.heap.size + 1, cx + j, none⟩)) wx := fun wx => by have := mark_at (w.heap.size + 1) (cx + j) hx8 wx; rwa [Int.natCast_add] at this
                    have hcl := stj.m1.cell (cx + j) hx8
                    have hfr := stj.m1.free (cx + j)
                    obtain ⟨_, _, _, q3, _⟩ := stj.bi
                    rw [hcx] at q3
                    have hcI : (cx : Int) ≤ 8 := by omega
                    have hjI : (j : Int) < n := by omega
                    have hnI : (n : Int) ≤ 8 := by omega
                    have hzj : w.heap.size + 1 < wr.heap.size := stj.m1.lt
                    go_wp2
                    go_roundw
                    case rel => exact ⟨j + 1, by omega, by go_num, by
                      have := stj.put1 hx8
                      rwa [List.append_assoc, Int.natCast_add, ← from_snoc] at this⟩
                    case measure => simp [intOf]; omega
                  · have hjn' : j = n := by omega
                    subst hjn'
                    go_wp2
                    go_roundw
                    case rel => exact ⟨k + 1, by omega, by go_num, by rw [E.out]; exact stj⟩
                    case measure => simp [intOf]; omega
              · by_cases h115 : lt i.op k = 115
                · rw [h115] at hopk hsx
                  have hin : inR (i.x k) (F.fn.sels.length : Int) := opnd_s hopk
                  have hin' : 0 ≤ i.x k ∧ i.x k < (F.sels.length : Int) := by simpa [MFn.fn] using hin
                  obtain ⟨x, hx⟩ : ∃ x : Nat, i.x k = (x : Int) := ⟨(i.x k).toNat, by omega⟩
                  obtain ⟨y, hy, hym⟩ := get_lt F.sels x (by omega)
                  have hcs : ∀ cc ∈ y.cases, (0 ≤ cc.reg ∧ cc.reg < 8) ∨ cc.reg = -1 ∧ cc.send = false := fun cc hcc => by
                    have h := (sel_els (hsel y.sel (by simp only [MFn.fn, List.mem_map]; exact ⟨y, hym, rfl⟩))).1 cc hcc
                    have h88 : F.fn.regs ≤ 8 := h8
                    rcases cas_reg h with q | q
                    · exact .inl ⟨q.1, by omega⟩
                    · exact .inr q
                  have E : Hid (touchTo M.pr F.fn i (k + 1) = (sndL y.cases, tkL y.cases)) := by
                    show _ = _
                    rw [hstep.out, tstep, if_neg h114, if_neg h119, if_neg h111, if_neg h112, if_pos h115, hx]
                    have hyy : F.fn.sels[((x : Int)).toNat]? = some y.sel := by rw [Int.toNat_natCast]; exact sels_get F x y hy
                    unfold Fn.sends Fn.takes
                    rw [hyy]
                    rfl
                  have hLr := hLw.out.later st.be
                  obtain ⟨yb, yo, hyix, hybl, yc0, yc1, yc2, yc3⟩ := fn_ix hLr.2.2.1 f F hf
                  obtain ⟨zb, zo, hzix, hzbl, zc0, zc1⟩ := sel_ix (hLr.2.2.2.2.2.2 F hFm).2.1 x y hy
                  have hcall := bySelect_any y wr ((hLr.2.2.2.2.2.2 F hFm).2.2.2.1 y hym) hcs
                  rw [hx] at hxc
                  clear hreg hop hopk hS hstep hR hT hl0 h112 h111 h119 h114 h115 hin hin' hcs hLr hx hfix
                  generalize sndL y.cases = r' at *
                  generalize tkL y.cases = s' at *
                  go_wp2_with (go_at_call 39; (with_reducible refine hcall.mono ?_); rintro e w' ⟨rfl, hb'⟩; (have st' := st.later hb'); (have HM1 := st'.m1); (have HM2 := st'.m2); (have hz1' : w.heap.size + 1 < w'.heap.size := HM1.lt); (have hz2' : w.heap.size + 1 + 1 < w'.heap.size := HM2.lt); (have fr1 := fun x => HM1.free x); (have fr2 := fun x => HM2.free x); (have d0 := HM1.cell 0 (by omega)); (have d1 := HM1.cell 1 (by omega)); (have d2 := HM1.cell 2 (by omega)); (have d3 := HM1.cell 3 (by omega)); (have d4 := HM1.cell 4 (by omega)); (have d5 := HM1.cell 5 (by omega)); (have d6 := HM1.cell 6 (by omega)); (have d7 := HM1.cell 7 (by omega)); (have g0 := HM2.cell 0 (by omega)); (have g1 := HM2.cell 1 (by omega)); (have g2 := HM2.cell 2 (by omega)); (have g3 := HM2.cell 3 (by omega)); (have g4 := HM2.cell 4 (by omega)); (have g5 := HM2.cell 5 (by omega)); (have g6 := HM2.cell 6 (by omega)); (have g7 := HM2.cell 7 (by omega)))
                  go_roundw
                  case rel => exact ⟨k + 1, by omega, by go_num, by rw [E.out]; exact st'.all⟩
                  case measure => simp [intOf]; omega
                · have E : Hid (touchTo M.pr F.fn i (k + 1) = (r, s)) := by
                    show _ = _
                    rw [hstep.out, tstep, if_neg h114, if_neg h119, if_neg h111, if_neg h112, if_neg h115, ← hR.out, ← hT.out]
                  clear hreg hop hopk hS hstep hR hT hl0
                  generalize lt i.op k = L at *
                  go_wp2
                  go_roundw
                  case rel => exact ⟨k + 1, by omega, by go_num, by rw [E.out]; exact st⟩
                  case measure => simp [intOf]; omega
      · have hk4 : k = 4 := by omega
        subst hk4
        obtain ⟨R, hR⟩ : ∃ R, Hid ((touchTo M.pr F.fn i 4).1 = R) := ⟨_, rfl⟩
        obtain ⟨T, hT⟩ : ∃ T, Hid ((touchTo M.pr F.fn i 4).2 = T) := ⟨_, rfl⟩
        rw [hR.out, hT.out] at st
        have HM1 := st.m1
        have HM2 := st.m2
        have hbe := st.be
        have hz1 : w.heap.size + 1 < wr.heap.size := HM1.lt
        have hz2 : w.heap.size + 1 + 1 < wr.heap.size := HM2.lt
        have d0 := HM1.cell 0 (by omega)
        have d1 := HM1.cell 1 (by omega)
        have d2 := HM1.cell 2 (by omega)
        have d3 := HM1.cell 3 (by omega)
        have d4 := HM1.cell 4 (by omega)
        have d5 := HM1.cell 5 (by omega)
        have d6 := HM1.cell 6 (by omega)
        have d7 := HM1.cell 7 (by omega)
        have g0 := HM2.cell 0 (by omega)
        have g1 := HM2.cell 1 (by omega)
        have g2 := HM2.cell 2 (by omega)
        have g3 := HM2.cell 3 (by omega)
        have g4 := HM2.cell 4 (by omega)
        have g5 := HM2.cell 5 (by omega)
        have g6 := HM2.cell 6 (by omega)
        have g7 := HM2.cell 7 (by omega)
        have fr1 := fun x => HM1.free x
        have fr2 := fun x => HM2.free x
        clear hS hreg hop st hpar hsel hfix hiix hlt
        go_wp2
        go_region
        go_wp2
        simp only [setCell_self d0, setCell_self d1, setCell_self d2, setCell_self d3, setCell_self d4, setCell_self d5, setCell_self d6, setCell_self d7, setCell_self g0, setCell_self g1, setCell_self g2, setCell_self g3, setCell_self g4, setCell_self g5, setCell_self g6, setCell_self g7]
        refine bodyPost_ret (v := .tuple #[marksV (inl R), marksV (inl T), .int .i64 0]) ?_ rfl ⟨by rw [hR.out, hT.out], hbe.drew⟩
        simp [results, Tryd.results18, go_sem, d0, d1, d2, d3, d4, d5, d6, d7, g0, g1, g2, g3, g4, g5, g6, g7]
end Go.Proofs.YtaghfahhfockkaaDoor.pg
