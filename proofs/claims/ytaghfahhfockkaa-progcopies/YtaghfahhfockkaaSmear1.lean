/- The contract of the statements' own Smear: it writes over a program's lists, and over nothing else. -/
import Derived.Test.YtaghfahhfockkaaSmear0
import Derived.BigRegion
import Derived.ChangeAlike
namespace Go.Proofs.Ytaghfahhfockkaa.pg
open Go.ChangeShapes Go.WideShapes Go.ChangeAt Go.RowKit
set_option linter.unusedVariables false
set_option linter.unusedSimpArgs false
set_option maxRecDepth 100000
set_option maxHeartbeats 8000000 in
theorem smear_any (N : MPr) (w : World) (lo : Nat) (ho : N.own w lo) :
    Calls Try.prog 7 #[N.val] w fun e w' => e = .returned (.tuple #[]) ∧ Sm w w' (N.wet ++ blk N.fa) := by
  have hwet := wet_bound ho
  have hfa : ∀ b ∈ blk N.fa, lo ≤ b ∧ b < w.heap.size := blk_lt ho.2.2.1
  have ho0 : N.own (w.alloc (objP N)) lo := ho.keep fun g hg => (boxed _ _).block g (own_lt ho g hg).2
  have hbox : (w.alloc (objP N)).heap[w.heap.size]? = some (objP N) := heap_alloc_new _ _
  have hsz : (w.alloc (objP N)).heap.size = w.heap.size + 1 := World.size_alloc _ _
  have hfin : ∀ wr, Sm (w.alloc (objP N)) wr (N.wet ++ blk N.fa) → Sm w wr (N.wet ++ blk N.fa) := fun wr h => h.start fun b hb => by
    rcases List.mem_append.mp hb with q | q
    · exact (hwet b q).2
    · exact (hfa b q).2
  go_enter Try.func7, Try.ntmps7
  go_wp2_with fail
  generalize w.alloc (objP N) = w0 at *
  have hBn : w.heap.size ∉ N.wet := fun q => by have := hwet _ q; omega
  have hBn2 : w.heap.size ∉ blk N.fa := fun q => by have := hfa _ q; omega
  have hwlt : ∀ b ∈ N.wet, b < w0.heap.size := fun b hb => by have := hwet b hb; omega
  have hbp : ∀ wr, Sm w0 wr N.wet → BoxP wr w.heap.size N := fun wr sm => by
    have h := (sm.keep w.heap.size (by omega) hBn).trans hbox
    exact ⟨whole_cell h 0 _ rfl, whole_cell h 1 _ rfl, whole_cell h 2 _ rfl, whole_cell h 3 _ rfl⟩
  have hbp2 : ∀ wr, Sm w0 wr (N.wet ++ blk N.fa) → BoxP wr w.heap.size N := fun wr sm => by
    have h := (sm.keep w.heap.size (by omega) (fun q => by rcases List.mem_append.mp q with q | q; exact hBn q; exact hBn2 q)).trans hbox
    exact ⟨whole_cell h 0 _ rfl, whole_cell h 1 _ rfl, whole_cell h 2 _ rfl, whole_cell h 3 _ rfl⟩
  have hva : ∀ g ∈ blk N.va, g ∈ N.wet := fun g hg => by unfold MPr.wet; simp [hg]
  have hch : ∀ g ∈ blk N.cha, g ∈ N.wet := fun g hg => by unfold MPr.wet; simp [hg]
  have hvI : (N.vars.length : Int) ≤ 9223372036854775807 := by have := own_len ho0.1; simpa using this
  have hcI : (N.chans.length : Int) ≤ 9223372036854775807 := by have := own_len ho0.2.1; simpa using this
  have hfI : (N.fns.length : Int) ≤ 9223372036854775807 := by have := own_len ho0.2.2.1; simpa using this
  clear hsz hbox
  go_loopw [14] (fun u wr => ∃ k : Nat, k ≤ N.vars.length ∧ u = .int .i64 k ∧ Sm w0 wr N.wet ∧ ∀ j, j < N.vars.length → ∃ g b, N.va = some ⟨g, 0, none⟩ ∧ wr.cell? ⟨g, j * 2, none⟩ = some (.bool b)) (fun u _ => N.vars.length - (intOf u).toNat)
  case atStart =>
    refine ⟨0, Nat.zero_le _, rfl, Sm.refl _ _, fun j hj => ?_⟩
    obtain ⟨x, hx, _⟩ := get_lt N.vars j hj
    obtain ⟨b, off, ha, _, hc, _⟩ := vr_at (own_rows ho0.1 (len2 _)) j x hx
    rcases own_block ho0.1 with ⟨_, h0, _⟩ | ⟨g, hg, _⟩
    · rw [List.length_map] at h0; omega
    · rw [hg] at ha
      simp only [Option.some.injEq, Addr.mk.injEq] at ha
      obtain ⟨rfl, rfl, _⟩ := ha
      exact ⟨g, x.atomic, hg, by rwa [Nat.zero_add] at hc⟩
  case round =>
    obtain ⟨k, hk, rfl, sm, hbools⟩ := hrel
    obtain ⟨p0, p1, p2, p3⟩ := hbp wr sm
    by_cases hlt : k < N.vars.length
    · obtain ⟨g, ha, hgW, hgs, hcells, hfr⟩ := row_free sm ho0.1 hva k (by simpa using hlt)
      obtain ⟨g', b, ha', hb⟩ := hbools k hlt
      have hgg : g' = g := by rw [ha] at ha'; simpa using ha'.symm
      subst hgg
      obtain ⟨u1, hu1⟩ := hcells 1 (by omega)
      have hix := ix_V g' N.vars.length N.vcap k hlt
      have hf0 := hfr (k * 2)
      have hf1 := hfr (k * 2 + 1)
      rw [ha] at p0
      have hAH : Hid (N.va = some ⟨g', 0, none⟩) := ha
      have hkI : (k : Int) < N.vars.length := by omega
      have hBs : w.heap.size < wr.heap.size := World.block_lt_of_cell? _ _ p1
      have hbH : Hid (∀ j, j < N.vars.length → ∃ g b, N.va = some ⟨g, 0, none⟩ ∧ wr.cell? ⟨g, j * 2, none⟩ = some (.bool b)) := hbools
      clear ha ha' hbools hcells hfr
      go_wp2_with fail
      go_region
      go_wp2
      go_roundw
      case rel => exact ⟨k + 1, by omega, by go_num, ((sm.set hgW _ _).set hgW _ _).drew, fun j hj => by
        by_cases hjk : j = k
        · subst hjk
          exact ⟨g', !b, hAH.out, st_other (by omega) (st_same hb)⟩
        · obtain ⟨g2, b2, h1, h2⟩ := hbH.out j hj
          have hgg : g2 = g' := by rw [hAH.out] at h1; simpa using h1.symm
          subst hgg
          exact ⟨g2, b2, hAH.out, st_other (by omega) (st_other (by omega) h2)⟩⟩
      case measure => simp [intOf]; omega
    · have hk2 : k = N.vars.length := by omega
      subst hk2
      have hBs : w.heap.size < wr.heap.size := World.block_lt_of_cell? _ _ p1
      clear hbools hlt
      go_wp2_with fail
      go_loopw [33] (fun u wr => ∃ k : Nat, k ≤ N.chans.length ∧ u = .int .i64 k ∧ Sm w0 wr N.wet) (fun u _ => N.chans.length - (intOf u).toNat)
      case atStart => exact ⟨0, Nat.zero_le _, rfl, sm⟩
      case round =>
        clear sm p0 p1 p2 p3 hBs
        obtain ⟨k, hk, rfl, sm⟩ := hrel
        obtain ⟨p0, p1, p2, p3⟩ := hbp wr sm
        have hBs : w.heap.size < wr.heap.size := World.block_lt_of_cell? _ _ p1
        by_cases hlt : k < N.chans.length
        · obtain ⟨g, ha, hgW, hgs, hcells, hfr⟩ := row_free sm ho0.2.1 hch k (by simpa using hlt)
          obtain ⟨u0, hu0⟩ := hcells 0 (by omega)
          have hix := ix_N g N.chans.length N.chcap k hlt
          have hf0 := hfr k
          simp only [Nat.mul_one, Nat.add_zero] at hix hu0
          rw [ha] at p2
          have hkI : (k : Int) < N.chans.length := by omega
          clear ha hcells hfr
          go_wp2
          go_roundw
          case rel => exact ⟨k + 1, by omega, by go_num, sm.set hgW _ _⟩
          case measure => simp [intOf]; omega
        · have hk2 : k = N.chans.length := by omega
          subst hk2
          clear hlt
          go_wp2_with fail
          go_loopw [44] (fun u wr => ∃ k : Nat, k ≤ N.fns.length ∧ u = .int .i64 k ∧ Sm w0 wr N.wet) (fun u _ => N.fns.length - (intOf u).toNat)
          case atStart => exact ⟨0, Nat.zero_le _, rfl, sm⟩
          case round =>
            clear sm p0 p1 p2 p3 hBs
            obtain ⟨k, hk, rfl, sm⟩ := hrel
            obtain ⟨p0, p1, p2, p3⟩ := hbp wr sm
            have hBs : w.heap.size < wr.heap.size := World.block_lt_of_cell? _ _ p1
            have hfaS : ∀ wx, Sm w0 wx N.wet → OwnL wx lo 35 4 N.fa N.fcap (N.fns.map MFn.cells) := fun wx sm => own_keep ho0.2.2.1 fun g hg => sm.keep g (blk_lt ho0.2.2.1 g hg).2 (wet_not ho0 ho0.2.2.1 (by decide) hg)
            by_cases hlt : k < N.fns.length
            · obtain ⟨x, hx, hxm⟩ := get_lt N.fns k hlt
              obtain ⟨xb, xo, hxix, hxbl, xc0, xc1, xc2, xc3⟩ := fn_ix (own_rows (hfaS wr sm) (len4f _)) k x hx
              have hkI : (k : Int) < N.fns.length := by omega
              have hxo := ho0.2.2.2 x hxm
              have hcodeW : ∀ g ∈ blk x.ca, g ∈ N.wet := fun g hg => wet_fn hxm (wet_code hg)
              have hcl : (x.code.length : Int) ≤ 9223372036854775807 := by have := own_len hxo.1; simpa using this
              have hsl : (x.sels.length : Int) ≤ 9223372036854775807 := by have := own_len hxo.2.1; simpa using this
              have hFw : wr.heap.size ∉ N.wet := fun q => by have := hwet _ q; have := hBs; omega
              go_wp2_with fail
              have sm1 : Sm w0 (wr.alloc (objF x)) N.wet := sm.alloc hwlt _
              have hF1 : (wr.alloc (objF x)).heap[wr.heap.size]? = some (objF x) := heap_alloc_new _ _
              clear hxix hxbl xc0 xc1 xc2 xc3 p0 p1 p2 p3 hBs sm
              generalize wr.alloc (objF x) = wF at *
              generalize hFg : wr.heap.size = Fb at *
              clear hFg
              go_loopw [51] (fun u wx => ∃ j : Nat, j ≤ x.code.length ∧ u = .int .i64 j ∧ Sm w0 wx N.wet ∧ wx.heap[Fb]? = some (objF x)) (fun u _ => x.code.length - (intOf u).toNat)
              case atStart => exact ⟨0, Nat.zero_le _, rfl, sm1, hF1⟩
              case round =>
                clear sm1 hF1
                obtain ⟨j, hj, rfl, sm, hF⟩ := hrel
                have f0 := whole_cell hF 0 _ rfl
                have f1 := whole_cell hF 1 _ rfl
                have f2 := whole_cell hF 2 _ rfl
                have f3 := whole_cell hF 3 _ rfl
                have hFs : Fb < wr.heap.size := (Array.getElem?_eq_some_iff.mp hF).1
                by_cases hjl : j < x.code.length
                · obtain ⟨g, ha, hgW, hgs, hcells, hfr⟩ := row_free sm hxo.1 hcodeW j (by simpa using hjl)
                  obtain ⟨u0, hu0⟩ := hcells 0 (by omega)
                  obtain ⟨u1, hu1⟩ := hcells 1 (by omega)
                  obtain ⟨u2, hu2⟩ := hcells 2 (by omega)
                  obtain ⟨u3, hu3⟩ := hcells 3 (by omega)
                  obtain ⟨u4, hu4⟩ := hcells 4 (by omega)
                  have hix := ix_I g x.code.length x.ccap j hjl
                  have z0 := hfr (j * 5)
                  have z1 := hfr (j * 5 + 1)
                  have z2 := hfr (j * 5 + 2)
                  have z3 := hfr (j * 5 + 3)
                  have z4 := hfr (j * 5 + 4)
                  rw [Nat.add_zero] at hu0
                  rw [ha] at f2
                  have hjI : (j : Int) < x.code.length := by omega
                  have hne : Fb ≠ g := fun q => hFw (by rw [q]; exact hgW)
                  clear ha hcells hfr
                  go_wp2
                  go_roundw
                  case rel => exact ⟨j + 1, by omega, by go_num, ((((sm.set hgW _ _).set hgW _ _).set hgW _ _).set hgW _ _).set hgW _ _, (heap_setCell_other _ _ _ _ hne).trans ((heap_setCell_other _ _ _ _ hne).trans ((heap_setCell_other _ _ _ _ hne).trans ((heap_setCell_other _ _ _ _ hne).trans ((heap_setCell_other _ _ _ _ hne).trans hF))))⟩
                  case measure => simp [intOf]; omega
                · have hj2 : j = x.code.length := by omega
                  subst hj2
                  clear hjl
                  go_wp2_with fail
                  clear f0 f1 f2 f3 hFs
                  go_loopw [63] (fun u wx => ∃ j : Nat, j ≤ x.sels.length ∧ u = .int .i64 j ∧ Sm w0 wx N.wet ∧ wx.heap[Fb]? = some (objF x)) (fun u _ => x.sels.length - (intOf u).toNat)
                  case atStart => exact ⟨0, Nat.zero_le _, rfl, sm, hF⟩
                  case round =>
                    clear sm hF
                    obtain ⟨j, hj, rfl, sm, hF⟩ := hrel
                    have hFs : Fb < wr.heap.size := (Array.getElem?_eq_some_iff.mp hF).1
                    by_cases hjl : j < x.sels.length
                    · obtain ⟨y, hy, hym⟩ := get_lt x.sels j hjl
                      have hsaS : OwnL wr lo 39 2 x.sa x.scap (x.sels.map MSel.cells) := own_keep hxo.2.1 fun g hg => sm.keep g (blk_lt hxo.2.1 g hg).2 (wet_not ho0 hxo.2.1 (by decide) hg)
                      obtain ⟨yb, yo, hyix, hybl, yc0, yc1⟩ := sel_ix (own_rows hsaS (len2s _)) j y hy
                      have hjI : (j : Int) < x.sels.length := by omega
                      have hyo := hxo.2.2 y hym
                      have hyW : ∀ g ∈ blk y.at_, g ∈ N.wet := fun g hg => wet_fn hxm (wet_case hym hg)
                      have hyl : (y.cases.length : Int) ≤ 9223372036854775807 := by have := own_len hyo; simpa using this
                      have hGw : wr.heap.size ∉ N.wet := fun q => by have := hwlt _ q; have := sm.size; omega
                      go_wp2_with fail
                      have sm1 : Sm w0 (wr.alloc (objS y)) N.wet := sm.alloc hwlt _
                      have hG1 : (wr.alloc (objS y)).heap[wr.heap.size]? = some (objS y) := heap_alloc_new _ _
                      have hF1 : (wr.alloc (objS y)).heap[Fb]? = some (objF x) := ((boxed _ _).block Fb hFs).trans hF
                      clear hyix hybl yc0 yc1 sm hF hsaS hFs
                      generalize wr.alloc (objS y) = wG at *
                      generalize hGg : wr.heap.size = Gb at *
                      clear hGg
                      go_loopw [70] (fun u wx => ∃ q : Nat, q ≤ y.cases.length ∧ u = .int .i64 q ∧ Sm w0 wx N.wet ∧ wx.heap[Fb]? = some (objF x) ∧ wx.heap[Gb]? = some (objS y)) (fun u _ => y.cases.length - (intOf u).toNat)
                      case atStart => exact ⟨0, Nat.zero_le _, rfl, sm1, hF1, hG1⟩
                      case round =>
                        clear sm1 hF1 hG1
                        obtain ⟨q, hq, rfl, sm, hF, hG⟩ := hrel
                        have g0 := whole_cell hG 0 _ rfl
                        have g1 := whole_cell hG 1 _ rfl
                        have hGs : Gb < wr.heap.size := (Array.getElem?_eq_some_iff.mp hG).1
                        by_cases hql : q < y.cases.length
                        · obtain ⟨g, ha, hgW, hgs, hcells, hfr⟩ := row_free sm hyo hyW q (by simpa using hql)
                          obtain ⟨u0, hu0⟩ := hcells 0 (by omega)
                          obtain ⟨u1, hu1⟩ := hcells 1 (by omega)
                          obtain ⟨u2, hu2⟩ := hcells 2 (by omega)
                          obtain ⟨u3, hu3⟩ := hcells 3 (by omega)
                          have hix := ix_C g y.cases.length y.cap q hql
                          have z0 := hfr (q * 4)
                          have z1 := hfr (q * 4 + 1)
                          have z2 := hfr (q * 4 + 2)
                          have z3 := hfr (q * 4 + 3)
                          rw [Nat.add_zero] at hu0
                          rw [ha] at g0
                          have hqI : (q : Int) < y.cases.length := by omega
                          have hneF : Fb ≠ g := fun e => hFw (by rw [e]; exact hgW)
                          have hneG : Gb ≠ g := fun e => hGw (by rw [e]; exact hgW)
                          clear ha hcells hfr
                          go_wp2
                          go_roundw
                          case rel => exact ⟨q + 1, by omega, by go_num, (((sm.set hgW _ _).set hgW _ _).set hgW _ _).set hgW _ _, (heap_setCell_other _ _ _ _ hneF).trans ((heap_setCell_other _ _ _ _ hneF).trans ((heap_setCell_other _ _ _ _ hneF).trans ((heap_setCell_other _ _ _ _ hneF).trans hF))), (heap_setCell_other _ _ _ _ hneG).trans ((heap_setCell_other _ _ _ _ hneG).trans ((heap_setCell_other _ _ _ _ hneG).trans ((heap_setCell_other _ _ _ _ hneG).trans hG)))⟩
                          case measure => simp [intOf]; omega
                        · have hq2 : q = y.cases.length := by omega
                          subst hq2
                          go_wp2
                          go_roundw
                          case rel => exact ⟨j + 1, by omega, by go_num, sm, hF⟩
                          case measure => simp [intOf]; omega
                    · have hj2 : j = x.sels.length := by omega
                      subst hj2
                      go_wp2
                      go_roundw
                      case rel => exact ⟨k + 1, by omega, by go_num, sm⟩
                      case measure => simp [intOf]; omega
            · have hk2 : k = N.fns.length := by omega
              subst hk2
              clear hlt
              go_wp2_with fail
              have hsmF : Sm w0 wr (N.wet ++ blk N.fa) := sm.more fun b hb => List.mem_append.mpr (.inl hb)
              clear p0 p1 p2 p3 hBs sm hfaS
              have hbpF : ∀ wr, Sm w0 wr (N.wet ++ blk N.fa) → BoxP wr w.heap.size N := hbp2
              go_loopw [84] (fun u wr => ∃ k : Nat, k ≤ N.fns.length ∧ u = .int .i64 k ∧ Sm w0 wr (N.wet ++ blk N.fa)) (fun u _ => N.fns.length - (intOf u).toNat)
              case atStart => exact ⟨0, Nat.zero_le _, rfl, hsmF⟩
              case round =>
                clear hsmF
                obtain ⟨k, hk, rfl, sm⟩ := hrel
                obtain ⟨p0, p1, p2, p3⟩ := hbpF wr sm
                have hBs : w.heap.size < wr.heap.size := World.block_lt_of_cell? _ _ p1
                by_cases hlt : k < N.fns.length
                · obtain ⟨g, ha, hgW, hgs, hcells, hfr⟩ := row_free sm ho0.2.2.1 (fun g hg => List.mem_append.mpr (.inr hg)) k (by simpa using hlt)
                  obtain ⟨u0, hu0⟩ := hcells 0 (by omega)
                  obtain ⟨u1, hu1⟩ := hcells 1 (by omega)
                  obtain ⟨u2, hu2⟩ := hcells 2 (by omega)
                  obtain ⟨u3, hu3⟩ := hcells 3 (by omega)
                  have hix := ix_F g N.fns.length N.fcap k hlt
                  have z0 := hfr (k * 4)
                  have z1 := hfr (k * 4 + 1)
                  have z2 := hfr (k * 4 + 2)
                  have z3 := hfr (k * 4 + 3)
                  rw [Nat.add_zero] at hu0
                  rw [ha] at p3
                  have hkI : (k : Int) < N.fns.length := by omega
                  clear ha hcells hfr
                  go_wp2
                  go_roundw
                  case rel => exact ⟨k + 1, by omega, by go_num, (((sm.set hgW _ _).set hgW _ _).set hgW _ _).set hgW _ _⟩
                  case measure => simp [intOf]; omega
                · have hk2 : k = N.fns.length := by omega
                  subst hk2
                  go_wp2
                  go_end0
                  exact ⟨rfl, hfin _ sm⟩
end Go.Proofs.Ytaghfahhfockkaa.pg
