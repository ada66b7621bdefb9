/- The contract of package prog's Copy. -/
import Derived.Test.YtaghfahhfockkaaCopy2
import Derived.Test.YtaghfahhfockkaaSetSelf
import Derived.BigRegion
import Derived.ChangeAlike
import Derived.Deep.DeepCutAuto
namespace Go.Proofs.Ytaghfahhfockkaa.pg
open Go.ChangeShapes Go.WideShapes Go.ChangeAt Go.RowKit
set_option linter.unusedVariables false
set_option linter.unusedSimpArgs false
set_option maxRecDepth 100000
attribute [local go_sem ↓] Go.wp_at_zero Go.wp_at_succ
theorem b0_drew (w : World) : Below 0 w w := Below.refl _ _
set_option maxHeartbeats 8000000 in
theorem copy2_any (M : MPr) (w : World) (hl : M.lies w) (hz : M.sz) :
    Calls Try.prog 5 #[M.val] w fun e w' => ∃ N : MPr, e = .returned N.val ∧ N.vars = M.vars ∧ N.locks = M.locks ∧ N.chans = M.chans ∧ N.fns.map MFn.fn = M.fns.map MFn.fn ∧ N.own w' w.heap.size ∧ Below w.heap.size w w' := by
  have hb := boxed2 w (objP M) objN
  have hlH : Hid (M.lies w) := hl
  have hlW := hl.later hb
  have bP : BoxP ((w.alloc (objP M)).alloc objN) w.heap.size M := (boxP_new w M).later (boxed _ _)
  have hbo0 : ((w.alloc (objP M)).alloc objN).heap[w.heap.size]? = some (objP M) := ((boxed _ _).block _ (by rw [World.size_alloc]; omega)).trans (heap_alloc_new _ _)
  have hbo1 : ((w.alloc (objP M)).alloc objN).heap[w.heap.size + 1]? = some objN := by have := heap_alloc_new (w.alloc (objP M)) objN; rwa [World.size_alloc] at this
  have hsz : ((w.alloc (objP M)).alloc objN).heap.size = w.heap.size + 1 + 1 := by simp only [World.size_alloc]
  go_enter Try.func5, Try.ntmps5
  go_upto_region 1 with fail
  generalize (w.alloc (objP M)).alloc objN = W at *
  have hbP : Hid (BoxP W w.heap.size M) := bP
  have hbo : Hid (W.heap[w.heap.size]? = some (objP M)) := hbo0
  have hbo2 : Hid (W.heap[w.heap.size + 1]? = some objN) := hbo1
  obtain ⟨p0, p1, p2, p3⟩ := bP
  have hzW : w.heap.size < W.heap.size := by omega
  clear hbo0 hbo1
  have k1 : ∀ wx, Below W.heap.size W wx → Calls Try.prog 8 #[.slice M.va M.vars.length M.vcap] wx _ := fun wx hx => by
    have := clone_Var (M.vars.map Vr.cells) M.va M.vcap wx (hlW.later hx).1 (len2 _) (one2 _) (by have := hz.1; unfold reachBytes at this; rw [List.length_map]; omega)
    rwa [List.length_map] at this
  have k2 : ∀ wx, Below W.heap.size W wx → Calls Try.prog 9 #[.slice M.cha M.chans.length M.chcap] wx _ := fun wx hx => by
    have := clone_Int (M.chans.map chCells) M.cha M.chcap wx (hlW.later hx).2.1 (len1 _) (one1 _) (by have := hz.2.1; unfold reachBytes at this; rw [List.length_map]; omega)
    rwa [List.length_map] at this
  have k3 : ∀ wx, Below W.heap.size W wx → Calls Try.prog 10 #[.slice M.fa M.fns.length M.fcap] wx _ := fun wx hx => by
    have := clone_Func (M.fns.map MFn.cells) M.fa M.fcap wx (hlW.later hx).2.2.1 (len4f _) (one4f _) (by have := hz.2.2.1; unfold reachBytes at this; rw [List.length_map]; omega)
    rwa [List.length_map] at this
  have hB0 : Below W.heap.size W W := Below.refl _ _
  go_cut [6] (fun u wx => ∃ N, KSt M w 0 N wx)
  case first =>
    go_region_with (first
      | (go_at_call 8; (with_reducible refine (k1 _ (by repeat (first | assumption | refine Below.drew ?_))).mono ?_); rintro e w1 ⟨va, vc, rfl, o1, hb1⟩; (have hB1 : Below W.heap.size W w1 := bthen (by repeat (first | assumption | refine Below.drew ?_)) hb1); obtain ⟨a10, a11, a12, a13⟩ := hbP.out.later hB1; (have hz1 : w.heap.size < w1.heap.size := (hbP.out.later hB1).lt); (have fz1 := fun x => whole_frozen ((hB1.block _ hzW).trans hbo.out) x))
      | (go_at_call 9; (with_reducible refine (k2 _ (by repeat (first | assumption | refine Below.drew ?_))).mono ?_); rintro e w2 ⟨ha, hc, rfl, o2, hb2⟩; (have hB2 : Below W.heap.size W w2 := bthen (by repeat (first | assumption | refine Below.drew ?_)) hb2); obtain ⟨a20, a21, a22, a23⟩ := hbP.out.later hB2; (have hz2 : w.heap.size < w2.heap.size := (hbP.out.later hB2).lt); (have fz2 := fun x => whole_frozen ((hB2.block _ hzW).trans hbo.out) x))
      | (go_at_call 10; (with_reducible refine (k3 _ (by repeat (first | assumption | refine Below.drew ?_))).mono ?_); rintro e w3 ⟨fa, fc, rfl, o3, hb3⟩; (have hB3 : Below W.heap.size W w3 := bthen (by repeat (first | assumption | refine Below.drew ?_)) hb3); obtain ⟨a30, a31, a32, a33⟩ := hbP.out.later hB3; (have hz3 : w.heap.size < w3.heap.size := (hbP.out.later hB3).lt); (have fz3 := fun x => whole_frozen ((hB3.block _ hzW).trans hbo.out) x)))
    all_goals
      go_wp2_with fail
      go_meet
      case rel => exact ⟨_, kst_start hb hbo.out hbo2.out (by rfl) (by repeat (first | exact b0_drew _ | refine Below.drew ?_)) hb1 o1 (by rfl) (by repeat (first | exact b0_drew _ | refine Below.drew ?_)) hb2 o2 (by rfl) (by repeat (first | exact b0_drew _ | refine Below.drew ?_)) hb3 o3⟩
  case rest =>
    obtain ⟨N, st0⟩ := hcut
    clear k1 k2 k3 p0 p1 p2 p3 hB0 hbP hbo hbo2 hlW hb hsz hzW
    have c3 := whole_cell st0.b0 3 _ rfl
    have hzc : w.heap.size < wc.heap.size := (Array.getElem?_eq_some_iff.mp st0.b0).1
    have hfl0 : Hid (N.fns.length = M.fns.length) := st0.fl
    rw [hfl0.out] at c3
    have hfI : (M.fns.length : Int) ≤ 9223372036854775807 := rows_len hlH.out.2.2.1
    go_wp2_with fail
    clear c3 hzc hfl0
    go_loopw [21] (fun u wr => ∃ (k : Nat) (N : MPr), k ≤ M.fns.length ∧ u = .int .i64 k ∧ KSt M w k N wr) (fun u _ => M.fns.length - (intOf u).toNat)
    case atStart => exact ⟨0, N, Nat.zero_le _, rfl, st0⟩
    case round =>
      clear st0
      obtain ⟨k, N, hk, rfl, st⟩ := hrel
      have p0 := whole_cell st.b0 0 _ rfl
      have p1 := whole_cell st.b0 1 _ rfl
      have p2 := whole_cell st.b0 2 _ rfl
      have p3 := whole_cell st.b0 3 _ rfl
      have hBs : w.heap.size < wr.heap.size := (Array.getElem?_eq_some_iff.mp st.b0).1
      have hBs1 : w.heap.size + 1 < wr.heap.size := (Array.getElem?_eq_some_iff.mp st.b1).1
      by_cases hlt : k < M.fns.length
      · obtain ⟨x, hx, hxm⟩ := get_lt M.fns k hlt
        have hNk : N.fns[k]? = some x := (st.od k (Nat.le_refl _)).trans hx
        obtain ⟨g, hg, hgl, r0, r1, r2, r3, fzg⟩ := kst_row st.of hNk
        rw [hg, st.fl] at p3
        have hgB : w.heap.size + 1 < g := by have := (blk_lt st.of g (by rw [hg]; simp [blk])).1; omega
        have hix := ix_F g M.fns.length N.fcap k hlt
        have hkI : (k : Int) < M.fns.length := by omega
        have hLr := hlH.out.later st.be
        have hxl := hLr.2.2.2.2.2.2 x hxm
        have hxz := hz.2.2.2 x hxm
        have k4 : ∀ wx, Below wr.heap.size wr wx → Calls Try.prog 11 #[.slice x.ca x.code.length x.ccap] wx _ := fun wx hx => by
          have := clone_Instr (x.code.map Ins.cells) x.ca x.ccap wx (hxl.later hx).1 (len5 _) (one5 _) (by have := hxz.1; unfold reachBytes at this; rw [List.length_map]; omega)
          rwa [List.length_map] at this
        have k5 : ∀ wx, Below wr.heap.size wr wx → Calls Try.prog 12 #[.slice x.sa x.sels.length x.scap] wx _ := fun wx hx => by
          have := clone_Select (x.sels.map MSel.cells) x.sa x.scap wx (hxl.later hx).2.1 (len2s _) (one2s _) (by have := hxz.2.1; unfold reachBytes at this; rw [List.length_map]; omega)
          rwa [List.length_map] at this
        have hB0 : Below wr.heap.size wr wr := Below.refl _ _
        have hstH : Hid (KSt M w k N wr) := st
        have hgH : Hid (N.fa = some ⟨g, 0, none⟩) := hg
        have hxI : (x.sels.length : Int) ≤ 9223372036854775807 := rows_len hxl.2.1
        clear st hNk hg
        go_wp2_with fail
        clear p0 p1 p2 p3
        go_cut [28] (fun u wx => ∃ N' y, N'.fa = some ⟨g, 0, none⟩ ∧ JSt M w k N' x 0 y wr.heap.size wx)
        case first =>
          go_region_with (first
            | (go_at_call 11; (with_reducible refine (k4 _ (by repeat (first | assumption | refine Below.drew ?_))).mono ?_); rintro e w1 ⟨ca, cc, rfl, o1, hb1⟩; (have hB1 : Below wr.heap.size wr w1 := bthen (by repeat (first | assumption | refine Below.drew ?_)) hb1); (have a10 := cell_later hB1 r0); (have a11 := cell_later hB1 r1); (have a12 := cell_later hB1 r2); (have a13 := cell_later hB1 r3); (have hz1 : g < w1.heap.size := Nat.lt_of_lt_of_le hgl hB1.size); (have fz1 := fun o => (hB1.frozen (p := ⟨g, o, none⟩) hgl).trans (fzg o)))
            | (go_at_call 12; (with_reducible refine (k5 _ (by repeat (first | assumption | refine Below.drew ?_))).mono ?_); rintro e w2 ⟨sa, sc, rfl, o2, hb2⟩; (have hB2 : Below wr.heap.size wr w2 := bthen (by repeat (first | assumption | refine Below.drew ?_)) hb2); (have a20 := cell_later hB2 r0); (have a21 := cell_later hB2 r1); (have a22 := cell_later hB2 r2); (have a23 := cell_later hB2 r3); (have hz2 : g < w2.heap.size := Nat.lt_of_lt_of_le hgl hB2.size); (have fz2 := fun o => (hB2.frozen (p := ⟨g, o, none⟩) hgl).trans (fzg o))))
          all_goals
            go_wp2_with fail
            go_meet
            case rel => exact ⟨{ N with fns := N.fns.set k ⟨x.params, x.regs, ca, cc, x.code, sa, sc, x.sels⟩ }, _, hgH.out, jst_start hstH.out hx hgH.out (by rfl) (by repeat (first | exact b0_drew _ | refine Below.drew ?_)) hb1 o1 (by rfl) (by repeat (first | exact b0_drew _ | refine Below.drew ?_)) hb2 o2⟩
        case rest =>
          obtain ⟨N1, y0, hg1, js0⟩ := hcut
          clear k4 k5 hB0 r0 r1 r2 r3 fzg hstH hgH hix
          obtain ⟨g', hg', hgl', r0, r1, r2, r3, fzg⟩ := kst_row js0.of js0.yk
          have hgg : g' = g := by rw [hg1] at hg'; simpa using hg'.symm
          subst hgg
          rw [js0.sl] at r3
          generalize wr.heap.size = HK at *
          go_wp2_with fail
          clear r0 r1 r2 r3 fzg hgl' hg'
          go_loopw [49] (fun u wx => ∃ (q : Nat) (N' : MPr) (y : MFn), q ≤ x.sels.length ∧ u = .int .i64 q ∧ N'.fa = some ⟨g', 0, none⟩ ∧ JSt M w k N' x q y HK wx) (fun u _ => x.sels.length - (intOf u).toNat)
          case atStart => exact ⟨0, N1, y0, Nat.zero_le _, rfl, hg1, js0⟩
          case round =>
            clear js0 hg1
            obtain ⟨q, N1, y, hq, rfl, hg1, js⟩ := hrel
            by_cases hlq : q < x.sels.length
            · obtain ⟨z, hzz, hzm⟩ := get_lt x.sels q hlq
              have hyq : y.sels[q]? = some z := (js.so q (Nat.le_refl _)).trans hzz
              obtain ⟨g2, hg2, hgl2, r0, r1, r2, r3, fzg⟩ := kst_row js.of js.yk
              have hgg : g2 = g' := by rw [hg1] at hg2; simpa using hg2.symm
              subst hgg
              obtain ⟨h, hh, hhl, s0, s1, fzh⟩ := sel_row js.os hyq
              rw [hh, js.sl] at r3
              have hix := ix_S h x.sels.length y.scap q hlq
              have hqI : (q : Int) < x.sels.length := by omega
              have hxl' := (hlH.out.later js.be).2.2.2.2.2.2 x hxm
              have k6 : ∀ wx, Below wr.heap.size wr wx → Calls Try.prog 13 #[.slice z.at_ z.cases.length z.cap] wx _ := fun wx hx => by
                have := clone_Case (z.cases.map Cas.cells) z.at_ z.cap wx ((hxl'.2.2.2.1 z hzm).later hx).1 (len4 _) (one4 _) (by have := hxz.2.2 z hzm; unfold MSel.sz reachBytes at this; rw [List.length_map]; omega)
                rwa [List.length_map] at this
              have hB0 : Below wr.heap.size wr wr := Below.refl _ _
              have hjs : Hid (JSt M w k N1 x q y HK wr) := js
              have hhH : Hid (y.sa = some ⟨h, 0, none⟩) := hh
              have hgH : Hid (N1.fa = some ⟨g2, 0, none⟩) := hg1
              clear js hh hg1 hg2 hyq hxl'
              go_wp2_with fail
              go_region_with (first
                | (go_at_call 13; (with_reducible refine (k6 _ (by repeat (first | assumption | refine Below.drew ?_))).mono ?_); rintro e w1 ⟨ta, tc, rfl, o1, hb1⟩; (have hB1 : Below wr.heap.size wr w1 := bthen (by repeat (first | assumption | refine Below.drew ?_)) hb1); (have a13 := cell_later hB1 r3); (have a14 := cell_later hB1 s0); (have hz1 : g2 < w1.heap.size := Nat.lt_of_lt_of_le hgl2 hB1.size); (have hz2 : h < w1.heap.size := Nat.lt_of_lt_of_le hhl hB1.size); (have fz1 := fun o => (hB1.frozen (p := ⟨h, o, none⟩) hhl).trans (fzh o))))
              all_goals
                obtain ⟨y', _, _, _, js'⟩ := jst_step hjs.out hzz hhH.out (by rfl) (by repeat (first | exact b0_drew _ | refine Below.drew ?_)) hb1 o1
                have js'H : Hid (JSt M w k { N1 with fns := N1.fns.set k y' } x (q + 1) y' HK _) := js'
                clear js' hjs
                go_wp2
                go_roundw
                case rel => exact ⟨q + 1, { N1 with fns := N1.fns.set k y' }, y', by omega, by go_num, hgH.out, js'H.out⟩
                case measure => simp [intOf]; omega
            · have hq2 : q = x.sels.length := by omega
              subst hq2
              have hks := jst_end js
              clear js
              go_wp2
              go_roundw
              case rel => exact ⟨k + 1, N1, by omega, by go_num, hks⟩
              case measure => simp [intOf]; omega
      · have hk2 : k = M.fns.length := by omega
        subst hk2
        have n0 := whole_cell st.b1 0 _ rfl
        have n1 := whole_cell st.b1 1 _ rfl
        have n2 := whole_cell st.b1 2 _ rfl
        have n3 := whole_cell st.b1 3 _ rfl
        have fz := fun o => whole_frozen st.b1 o
        have hfin : ∀ wf : World, (∀ b, b ≠ w.heap.size + 1 → wf.heap[b]? = wr.heap[b]?) → N.own wf w.heap.size := fun wf h => kst_fin st h
        have hend := kst_end st
        have hbe := st.be
        have hst : Hid (N.vars = M.vars ∧ N.locks = M.locks ∧ N.chans = M.chans) := ⟨st.ev, st.el, st.ec⟩
        clear st
        go_wp2
        refine bodyPost_ret (v := N.val) ?_ rfl ⟨N, rfl, hst.out.1, hst.out.2.1, hst.out.2.2, hend.1, hfin _ (fun b hb => (heap_setCell_other _ _ _ _ hb).trans ((heap_setCell_other _ _ _ _ hb).trans ((heap_setCell_other _ _ _ _ hb).trans (heap_setCell_other _ _ _ _ hb)))), (((hbe.setCell (p := ⟨w.heap.size + 1, 0, none⟩) (Nat.le_succ _) _).setCell (p := ⟨w.heap.size + 1, 1, none⟩) (Nat.le_succ _) _).setCell (p := ⟨w.heap.size + 1, 2, none⟩) (Nat.le_succ _) _).setCell (p := ⟨w.heap.size + 1, 3, none⟩) (Nat.le_succ _) _⟩
        simp [results, Try.results5, go_sem, n0, n1, n2, n3]
end Go.Proofs.Ytaghfahhfockkaa.pg
