/- The contract of the document's own look at two functions: are they the same? -/
import Derived.Test.YtkhfimfjndmdlaaDoorM18
import Derived.Test.YtkhfimfjndmdlaaDoorM23
namespace Go.Proofs.YtkhfimfjndmdlaaDoor.pg
open Go.ChangeShapes Go.WideShapes Go.ChangeAt Go.RowKit
set_option linter.unusedVariables false
set_option linter.unusedSimpArgs false
set_option maxRecDepth 100000
theorem sel_mem {l : List MSel} {k : Nat} {x : MSel} (h : l[k]? = some x) : x ∈ l := List.mem_of_getElem? h
theorem fn_eq {f g : MFn} (h1 : f.params = g.params) (h2 : f.regs = g.regs) (h3 : f.code = g.code) (h4 : f.sels.map MSel.sel = g.sels.map MSel.sel) : f.fn = g.fn := by unfold MFn.fn; rw [h1, h2, h3, h4]
theorem not_same {r : Bool} {p : Prop} (hr : Hid (r = true ↔ p)) (hn : ¬ p) : Hid (r = false) := by
  show r = false
  cases r with
  | false => rfl
  | true => exact absurd (hr.out.mp rfl) hn
theorem is_same {r : Bool} {p : Prop} (hr : Hid (r = true ↔ p)) (hp : p) : Hid (r = true) := hr.out.mpr hp
set_option maxHeartbeats 8000000 in
theorem rsameFunc_any (f g : MFn) (w : World) (hf : f.lies w) (hg : g.lies w) (r : Bool) (hr : Hid (r = true ↔ f.fn = g.fn)) :
    Calls Tryd.prog 27 #[f.val, g.val] w fun e w' => e = .returned (.bool r) ∧ Below w.heap.size w w' := by
  by_cases h1 : f.params = g.params
  · by_cases h2 : f.regs = g.regs
    · by_cases h3 : f.code.length = g.code.length
      · by_cases h4 : f.sels.length = g.sels.length
        · have hb := boxed2 w (objF f) (objF g)
          have hb2 := boxed (w.alloc (objF f)) (objF g)
          have bF := (boxF_new w f).later hb2
          have bG := boxF_new (w.alloc (objF f)) g
          simp only [World.size_alloc] at bG
          have hfL := hf.later hb
          have hgL := hg.later hb
          have hln := rows_len hf.1
          have hlns := rows_len hf.2.1
          have hz : w.heap.size + 1 < ((w.alloc (objF f)).alloc (objF g)).heap.size := by simp only [World.size_alloc]; omega
          clear hb2 hf hg
          obtain ⟨pa, ra, ca, cc, code, sa, sc, sels⟩ := f
          obtain ⟨pb, rb, cb, cd, code2, sb, sd, sels2⟩ := g
          simp only at h1 h2 h3 h4 hln hlns
          subst h1
          subst h2
          simp only [objF] at bF bG hfL hgL hz hb
          rw [h3] at hb hz hfL hgL bF bG hln
          rw [h4] at hb hz hfL hgL bF bG hlns
          show Calls Tryd.prog 27 #[.agg #[.int .i64 pa, .int .i64 ra, .slice ca code.length cc, .slice sa sels.length sc], .agg #[.int .i64 pa, .int .i64 ra, .slice cb code2.length cd, .slice sb sels2.length sd]] w _
          rw [h3, h4]
          have H3 : Hid (code.length = code2.length) := h3
          have H4 : Hid (sels.length = sels2.length) := h4
          clear h3 h4
          go_enter Tryd.func27, Tryd.ntmps27
          go_wp2
          generalize (w.alloc (.cells #[.int .i64 pa, .int .i64 ra, .slice ca code2.length cc, .slice sa sels2.length sc] 48)).alloc (.cells #[.int .i64 pa, .int .i64 ra, .slice cb code2.length cd, .slice sb sels2.length sd] 48) = W at *
          have C2 : Hid (W.cell? ⟨w.heap.size, 2, none⟩ = some (.slice ca code2.length cc)) := by have q := bF.2.2.1; simp only at q; rw [H3.out] at q; exact q
          have C3 : Hid (W.cell? ⟨w.heap.size, 3, none⟩ = some (.slice sa sels2.length sc)) := by have q := bF.2.2.2; simp only at q; rw [H4.out] at q; exact q
          have D2 : Hid (W.cell? ⟨w.heap.size + 1, 2, none⟩ = some (.slice cb code2.length cd)) := bG.2.2.1
          have D3 : Hid (W.cell? ⟨w.heap.size + 1, 3, none⟩ = some (.slice sb sels2.length sd)) := bG.2.2.2
          have hfL : Hid (MFn.lies W ⟨pa, ra, ca, cc, code, sa, sc, sels⟩) := hfL
          have hgL : Hid (MFn.lies W ⟨pa, ra, cb, cd, code2, sb, sd, sels2⟩) := hgL
          clear bF bG
          go_loopw [43] (fun u wr => ∃ k : Nat, k ≤ code2.length ∧ u = .int .i64 k ∧ (∀ j x y, j < k → code[j]? = some x → code2[j]? = some y → x = y) ∧ Below W.heap.size W wr) (fun u _ => code2.length - (intOf u).toNat)
          case atStart => exact ⟨0, Nat.zero_le _, rfl, fun j x y hj => by omega, Below.refl _ _⟩
          case round =>
            obtain ⟨k, hk, rfl, hall, hbr⟩ := hrel
            have a2 := cell_later hbr C2.out
            have b2 := cell_later hbr D2.out
            have a3 := cell_later hbr C3.out
            have b3 := cell_later hbr D3.out
            have hbw : Below w.heap.size w wr := bthen hb hbr
            by_cases hlt : k < code2.length
            · obtain ⟨x, hx, hxm⟩ := get_lt code k (by have := H3.out; omega)
              obtain ⟨y, hy, hym⟩ := get_lt code2 k hlt
              obtain ⟨bx, ox, hix, _, c0, c1, c2, c3, c4⟩ := ins_ix (hfL.out.later hbr).1 k x hx
              obtain ⟨bz, oy, hiy, _, e0, e1, e2, e3, e4⟩ := ins_ix (hgL.out.later hbr).1 k y hy
              rw [H3.out] at hix
              have hklI : (k : Int) < (code2.length : Int) := by omega
              have hne := run_neI x y
              cases hq : eqI x y with
              | true =>
                rw [hq] at hne
                have hxy : Hid (x = y) := (eqI_iff x y).mp hq
                clear hq a3 b3
                go_wp2_with fail
                go_quiet (fail)
                go_wp2
                go_roundw
                case rel => exact ⟨k + 1, by omega, by go_num, (fun j x' y' hj hx' hy' => by
                  by_cases hjk : j = k
                  · subst hjk; rw [hx] at hx'; rw [hy] at hy'; cases hx'; cases hy'; exact hxy.out
                  · exact hall j x' y' (by omega) hx' hy'), below_drewN hbr _⟩
                case measure => simp [intOf]; omega
              | false =>
                rw [hq] at hne
                have hv := not_same hr (fun q => by
                  have q2 : code = code2 := congrArg Fn.code q
                  subst q2
                  rw [hx] at hy
                  cases hy
                  have := (eqI_iff x x).mpr rfl
                  rw [hq] at this
                  exact absurd this (by decide))
                clear hq a3 b3
                go_wp2_with fail
                go_quiet (fail)
                go_wp2
                go_ret
                exact ⟨ret_b hv.out.symm, below_drewN hbw _⟩
            · have hcode : Hid (code = code2) := list_eq H3.out (fun i x y hx hy => hall i x y (by have := (List.getElem?_eq_some_iff.mp hy).1; omega) hx hy)
              clear hall a2 b2
              go_wp2
              generalize wr = W2 at *
              go_loopw [61] (fun u wr => ∃ k : Nat, k ≤ sels2.length ∧ u = .int .i64 k ∧ (∀ j x y, j < k → sels[j]? = some x → sels2[j]? = some y → x.sel = y.sel) ∧ Below W.heap.size W wr) (fun u _ => sels2.length - (intOf u).toNat)
              case atStart => exact ⟨0, Nat.zero_le _, rfl, fun j x y hj => by omega, hbr⟩
              case round =>
                clear a3 b3 hbw hbr
                obtain ⟨k, hk, rfl, hall, hbr⟩ := hrel
                have a3 := cell_later hbr C3.out
                have b3 := cell_later hbr D3.out
                have hbw : Below w.heap.size w wr := bthen hb hbr
                have z := hbr.size
                have z0 : w.heap.size < wr.heap.size := by omega
                have z1 : w.heap.size + 1 < wr.heap.size := by omega
                have z2 : w.heap.size + 1 < wr.heap.size + 1 := by omega
                by_cases hlt : k < sels2.length
                · obtain ⟨x, hx, hxm⟩ := get_lt sels k (by have := H4.out; omega)
                  obtain ⟨y, hy, hym⟩ := get_lt sels2 k hlt
                  have hfr := hfL.out.later hbr
                  have hgr := hgL.out.later hbr
                  obtain ⟨bx, ox, hix, hbx, c0, c1⟩ := sel_ix hfr.2.1 k x hx
                  obtain ⟨bz, oy, hiy, hbz, e0, e1⟩ := sel_ix hgr.2.1 k y hy
                  have hxl := hfr.2.2.2.1 x hxm
                  have hyl := hgr.2.2.2.1 y hym
                  have hz1 : bz < wr.heap.size + 1 := by omega
                  rw [H4.out] at hix
                  obtain ⟨xa, xcap, xcases, xels⟩ := x
                  obtain ⟨ya, ycap, ycases, yels⟩ := y
                  simp only at hix hiy c0 c1 e0 e1
                  clear hfr hgr
                  have diff : ¬ (Sel.mk xcases xels = Sel.mk ycases yels) → Hid (r = false) := fun hd => not_same hr (fun q => hd (by
                    have q2 : sels.map MSel.sel = sels2.map MSel.sel := congrArg Fn.sels q
                    have q3 := congrArg (fun l => l[k]?) q2
                    simp only [List.getElem?_map, hx, hy, Option.map_some, Option.some.injEq] at q3
                    exact q3))
                  by_cases h5 : xels = yels
                  · by_cases h6 : xcases.length = ycases.length
                    · subst h5
                      have hlnx := rows_len hyl.1
                      simp only at hlnx
                      rw [h6] at c0
                      have H6 : Hid (xcases.length = ycases.length) := h6
                      clear h6
                      have hb3 := bthen hbr (boxed2 wr (.cells #[.slice xa ycases.length xcap, .int .i64 xels] 105) (.cells #[.slice ya ycases.length ycap, .int .i64 xels] 105))
                      have xl := hxl.later (boxed2 wr (.cells #[.slice xa ycases.length xcap, .int .i64 xels] 105) (.cells #[.slice ya ycases.length ycap, .int .i64 xels] 105))
                      have yl := hyl.later (boxed2 wr (.cells #[.slice xa ycases.length xcap, .int .i64 xels] 105) (.cells #[.slice ya ycases.length ycap, .int .i64 xels] 105))
                      have bX : Hid ((((wr.alloc (.cells #[.slice xa ycases.length xcap, .int .i64 xels] 105)).alloc (.cells #[.slice ya ycases.length ycap, .int .i64 xels] 105)).cell? ⟨wr.heap.size, 0, none⟩ = some (.slice xa ycases.length xcap))) := by
                        refine cell_later (boxed _ _) ?_
                        exact World.cell?_alloc_at _ _ _ _ rfl
                      have bY : Hid ((((wr.alloc (.cells #[.slice xa ycases.length xcap, .int .i64 xels] 105)).alloc (.cells #[.slice ya ycases.length ycap, .int .i64 xels] 105)).cell? ⟨wr.heap.size + 1, 0, none⟩ = some (.slice ya ycases.length ycap))) := by
                        exact World.cell?_alloc_at _ _ _ _ (World.size_alloc _ _).symm
                      clear hxl hyl
                      go_wp2
                      generalize (wr.alloc (.cells #[.slice xa ycases.length xcap, .int .i64 xels] 105)).alloc (.cells #[.slice ya ycases.length ycap, .int .i64 xels] 105) = W3 at *
                      clear hix hiy c0 c1 e0 e1 hbx hbz a3 b3 z0 z1 z2 hz1 z hbw hbr
                      generalize wr.heap.size = BX at *
                      go_loopw [91] (fun u wr => ∃ q : Nat, q ≤ ycases.length ∧ u = .int .i64 q ∧ (∀ j x y, j < q → xcases[j]? = some x → ycases[j]? = some y → x = y) ∧ Below W3.heap.size W3 wr) (fun u _ => ycases.length - (intOf u).toNat)
                      case atStart => exact ⟨0, Nat.zero_le _, rfl, fun j x y hj => by omega, Below.refl _ _⟩
                      case round =>
                        obtain ⟨q, hq, rfl, hallc, hbq⟩ := hrel
                        have x0 := cell_later hbq bX.out
                        have y0 := cell_later hbq bY.out
                        have hb4 := bthen hb3 hbq
                        by_cases hlq : q < ycases.length
                        · obtain ⟨x, hxx, _⟩ := get_lt xcases q (by have := H6.out; omega)
                          obtain ⟨y, hyy, _⟩ := get_lt ycases q hlq
                          obtain ⟨bx, ox, hix, _, c0, c1, c2, c3⟩ := cas_ix (xl.later hbq).1 q x hxx
                          obtain ⟨bz, oy, hiy, _, e0, e1, e2, e3⟩ := cas_ix (yl.later hbq).1 q y hyy
                          rw [H6.out] at hix
                          have hqlI : (q : Int) < (ycases.length : Int) := by omega
                          have hne := run_neC x y
                          cases hqe : eqC x y with
                          | true =>
                            rw [hqe] at hne
                            have hxy : Hid (x = y) := (eqC_iff x y).mp hqe
                            clear hqe
                            go_wp2_with fail
                            go_quiet (fail)
                            go_wp2
                            go_roundw
                            case rel => exact ⟨q + 1, by omega, by go_num, (fun j x' y' hj hx' hy' => by
                              by_cases hjk : j = q
                              · subst hjk; rw [hxx] at hx'; rw [hyy] at hy'; cases hx'; cases hy'; exact hxy.out
                              · exact hallc j x' y' (by omega) hx' hy'), below_drewN hbq _⟩
                            case measure => simp [intOf]; omega
                          | false =>
                            rw [hqe] at hne
                            have hv := diff (fun t => by
                              have t2 : xcases = ycases := congrArg Sel.cases t
                              subst t2
                              rw [hxx] at hyy
                              cases hyy
                              have := (eqC_iff x x).mpr rfl
                              rw [hqe] at this
                              exact absurd this (by decide))
                            clear hqe
                            go_wp2_with fail
                            go_quiet (fail)
                            go_wp2
                            go_ret
                            exact ⟨ret_b hv.out.symm, below_drewN (bthen hb hb4) _⟩
                        · have hcs : xcases = ycases := list_eq H6.out (fun i x y hx hy => hallc i x y (by have := (List.getElem?_eq_some_iff.mp hy).1; omega) hx hy)
                          have hcs' : Hid (Sel.mk xcases xels = Sel.mk ycases xels) := by show _ = _; rw [hcs]
                          clear hcs hallc x0 y0
                          go_wp2
                          go_roundw
                          case rel => exact ⟨k + 1, by omega, by go_num, (fun j x' y' hj hx' hy' => by
                            by_cases hjk : j = k
                            · subst hjk; rw [hx] at hx'; rw [hy] at hy'; cases hx'; cases hy'; exact hcs'.out
                            · exact hall j x' y' (by omega) hx' hy'), hb4⟩
                          case measure => simp [intOf]; omega
                    · have hv := diff (fun t => h6 (congrArg (fun s => s.cases.length) t))
                      subst h5
                      clear hxl hyl diff
                      have h6I : ¬ (xcases.length : Int) = ycases.length := by omega
                      clear h6
                      go_wp2
                      go_ret
                      exact ⟨ret_b hv.out.symm, bthen hbw (boxed2 _ _ _)⟩
                  · have hv := diff (fun t => h5 (congrArg Sel.els t))
                    clear hxl hyl diff
                    go_wp2
                    go_ret
                    exact ⟨ret_b hv.out.symm, bthen hbw (boxed2 _ _ _)⟩
                · have hsl : sels.map MSel.sel = sels2.map MSel.sel := list_eq (by simp only [List.length_map]; exact H4.out) (fun i x y hx hy => by
                    simp only [List.getElem?_map, Option.map_eq_some_iff] at hx hy
                    obtain ⟨x', hx', rfl⟩ := hx
                    obtain ⟨y', hy', rfl⟩ := hy
                    exact hall i x' y' (by have := (List.getElem?_eq_some_iff.mp hy').1; omega) hx' hy')
                  have hv := is_same hr (fn_eq rfl rfl hcode.out hsl)
                  clear hsl hall a3 b3
                  go_wp2
                  go_ret
                  exact ⟨ret_b hv.out.symm, hbw⟩
        · have hv := not_same hr (fun q => h4 (by have := congrArg (fun f => f.sels.length) q; simpa [MFn.fn] using this))
          have hI : ¬ (f.sels.length : Int) = g.sels.length := by omega
          clear h4 hf hg
          obtain ⟨pa, ra, ca, cc, code, sa, sc, sels⟩ := f
          obtain ⟨pb, rb, cb, cd, code2, sb, sd, sels2⟩ := g
          simp only at h1 h2 h3 hI
          subst h1
          subst h2
          have hIb : ((sels.length : Int) != (sels2.length : Int)) = true := by simpa using hI
          have h3I : (code.length : Int) = code2.length := by omega
          go_enter Tryd.func27, Tryd.ntmps27
          go_wp2
          go_ret
          exact ⟨ret_b hv.out.symm, boxed2 _ _ _⟩
      · have hv := not_same hr (fun q => h3 (congrArg (fun f => f.code.length) q))
        have hI : ¬ (f.code.length : Int) = g.code.length := by omega
        clear h3 hf hg
        obtain ⟨pa, ra, ca, cc, code, sa, sc, sels⟩ := f
        obtain ⟨pb, rb, cb, cd, code2, sb, sd, sels2⟩ := g
        simp only at h1 h2 hI
        subst h1
        subst h2
        go_enter Tryd.func27, Tryd.ntmps27
        go_wp2
        go_ret
        exact ⟨ret_b hv.out.symm, boxed2 _ _ _⟩
    · have hv := not_same hr (fun q => h2 (congrArg Fn.regs q))
      clear hf hg
      obtain ⟨pa, ra, ca, cc, code, sa, sc, sels⟩ := f
      obtain ⟨pb, rb, cb, cd, code2, sb, sd, sels2⟩ := g
      simp only at h1 h2
      subst h1
      go_enter Tryd.func27, Tryd.ntmps27
      go_wp2
      go_ret
      exact ⟨ret_b hv.out.symm, boxed2 _ _ _⟩
  · have hv := not_same hr (fun q => h1 (congrArg Fn.params q))
    go_enter Tryd.func27, Tryd.ntmps27
    go_wp2
    go_ret
    exact ⟨ret_b hv.out.symm, boxed2 _ _ _⟩
end Go.Proofs.YtkhfimfjndmdlaaDoor.pg
/- The contract of the document's own Same. -/
namespace Go.Proofs.YtkhfimfjndmdlaaDoor.pg
open Go.ChangeShapes Go.WideShapes Go.ChangeAt Go.RowKit
set_option linter.unusedVariables false
set_option linter.unusedSimpArgs false
set_option maxRecDepth 100000
attribute [local go_sem ↓] Go.wp_at_zero Go.wp_at_succ
theorem keep10 {A0 A1 A2 A3 A4 A5 A6 A7 A8 A9 Q : Prop} (h : A0 ∧ A1 ∧ A2 ∧ A3 ∧ A4 ∧ A5 ∧ A6 ∧ A7 ∧ A8 ∧ A9 ∧ Q) : Q := h.2.2.2.2.2.2.2.2.2.2
theorem pr_eq {A B : MPr} (h1 : A.vars = B.vars) (h2 : A.locks = B.locks) (h3 : A.chans = B.chans) (h4 : A.fns.map MFn.fn = B.fns.map MFn.fn) : A.pr = B.pr := by unfold MPr.pr; rw [h1, h2, h3, h4]
set_option maxHeartbeats 8000000 in
theorem rsame_any (A B : MPr) (w : World) (hA : A.lies w) (hB : B.lies w) (r : Bool) (hr : Hid (r = true ↔ A.pr = B.pr)) :
    Calls Tryd.prog 11 #[A.val, B.val] w fun e w' => e = .returned (.bool r) ∧ Below w.heap.size w w' := by
  by_cases h1 : A.vars.length = B.vars.length
  · by_cases h2 : A.locks = B.locks
    · by_cases h3 : A.chans.length = B.chans.length
      · by_cases h4 : A.fns.length = B.fns.length
        · have hb := boxed2 w (objP A) (objP B)
          have hb2 := boxed (w.alloc (objP A)) (objP B)
          have bA := (boxP_new w A).later hb2
          have bB := boxP_new (w.alloc (objP A)) B
          simp only [World.size_alloc] at bB
          have hAL := hA.later hb
          have hBL := hB.later hb
          have hl1 := rows_len hA.1
          have hl3 := rows_len hA.2.1
          have hl4 := rows_len hA.2.2.1
          have hz : w.heap.size + 1 < ((w.alloc (objP A)).alloc (objP B)).heap.size := by simp only [World.size_alloc]; omega
          clear hb2 hA hB
          obtain ⟨va, vc, vars, locks, ha, hc, chans, fa, fc, fns⟩ := A
          obtain ⟨vb, vd, vars2, locks2, hb', hd, chans2, fb, fd, fns2⟩ := B
          simp only at h1 h2 h3 h4 hl1 hl3 hl4
          subst h2
          simp only [objP] at bA bB hAL hBL hz hb
          rw [h1] at hb hz hAL hBL bA bB hl1
          rw [h3] at hb hz hAL hBL bA bB hl3
          rw [h4] at hb hz hAL hBL bA bB hl4
          show Calls Tryd.prog 11 #[.agg #[.slice va vars.length vc, .int .i64 locks, .slice ha chans.length hc, .slice fa fns.length fc], .agg #[.slice vb vars2.length vd, .int .i64 locks, .slice hb' chans2.length hd, .slice fb fns2.length fd]] w _
          rw [h1, h3, h4]
          have H1 : Hid (vars.length = vars2.length) := h1
          have H3 : Hid (chans.length = chans2.length) := h3
          have H4 : Hid (fns.length = fns2.length) := h4
          clear h1 h3 h4
          go_enter Tryd.func11, Tryd.ntmps11
          go_wp2
          generalize (w.alloc (.cells #[.slice va vars2.length vc, .int .i64 locks, .slice ha chans2.length hc, .slice fa fns2.length fc] 26)).alloc (.cells #[.slice vb vars2.length vd, .int .i64 locks, .slice hb' chans2.length hd, .slice fb fns2.length fd] 26) = W at *
          have A0 : Hid (W.cell? ⟨w.heap.size, 0, none⟩ = some (.slice va vars2.length vc)) := by have q := bA.1; simp only at q; rw [H1.out] at q; exact q
          have A2 : Hid (W.cell? ⟨w.heap.size, 2, none⟩ = some (.slice ha chans2.length hc)) := by have q := bA.2.2.1; simp only at q; rw [H3.out] at q; exact q
          have A3 : Hid (W.cell? ⟨w.heap.size, 3, none⟩ = some (.slice fa fns2.length fc)) := by have q := bA.2.2.2; simp only at q; rw [H4.out] at q; exact q
          have B0 : Hid (W.cell? ⟨w.heap.size + 1, 0, none⟩ = some (.slice vb vars2.length vd)) := bB.1
          have B2 : Hid (W.cell? ⟨w.heap.size + 1, 2, none⟩ = some (.slice hb' chans2.length hd)) := bB.2.2.1
          have B3 : Hid (W.cell? ⟨w.heap.size + 1, 3, none⟩ = some (.slice fb fns2.length fd)) := bB.2.2.2
          have hAL : Hid (MPr.lies W ⟨va, vc, vars, locks, ha, hc, chans, fa, fc, fns⟩) := hAL
          have hBL : Hid (MPr.lies W ⟨vb, vd, vars2, locks, hb', hd, chans2, fb, fd, fns2⟩) := hBL
          clear bA bB
          go_loopw [43] (fun u wr => ∃ k : Nat, k ≤ vars2.length ∧ u = .int .i64 k ∧ (∀ j x y, j < k → vars[j]? = some x → vars2[j]? = some y → x = y) ∧ Below W.heap.size W wr) (fun u _ => vars2.length - (intOf u).toNat)
          case atStart => exact ⟨0, Nat.zero_le _, rfl, fun j x y hj => by omega, Below.refl _ _⟩
          case round =>
            obtain ⟨k, hk, rfl, hall, hbr⟩ := hrel
            have a0 := cell_later hbr A0.out
            have b0 := cell_later hbr B0.out
            have a2 := cell_later hbr A2.out
            have b2 := cell_later hbr B2.out
            have hbw : Below w.heap.size w wr := bthen hb hbr
            by_cases hlt : k < vars2.length
            · obtain ⟨x, hx, hxm⟩ := get_lt vars k (by have := H1.out; omega)
              obtain ⟨y, hy, hym⟩ := get_lt vars2 k hlt
              obtain ⟨bx, ox, hix, _, c0, c1⟩ := vr_ix (hAL.out.later hbr).1 k x hx
              obtain ⟨bz, oy, hiy, _, e0, e1⟩ := vr_ix (hBL.out.later hbr).1 k y hy
              rw [H1.out] at hix
              have hklI : (k : Int) < (vars2.length : Int) := by omega
              have hne := run_neV x y
              cases hq : eqV x y with
              | true =>
                rw [hq] at hne
                have hxy : Hid (x = y) := (eqV_iff x y).mp hq
                clear hq a2 b2
                go_wp2_with fail
                go_quiet (fail)
                go_wp2
                go_roundw
                case rel => exact ⟨k + 1, by omega, by go_num, (fun j x' y' hj hx' hy' => by
                  by_cases hjk : j = k
                  · subst hjk; rw [hx] at hx'; rw [hy] at hy'; cases hx'; cases hy'; exact hxy.out
                  · exact hall j x' y' (by omega) hx' hy'), below_drewN hbr _⟩
                case measure => simp [intOf]; omega
              | false =>
                rw [hq] at hne
                have hv := not_same hr (fun q => by
                  have q2 : vars = vars2 := congrArg Pr.vars q
                  subst q2
                  rw [hx] at hy
                  cases hy
                  have := (eqV_iff x x).mpr rfl
                  rw [hq] at this
                  exact absurd this (by decide))
                clear hq a2 b2
                go_wp2_with fail
                go_quiet (fail)
                go_wp2
                go_ret
                exact ⟨ret_b hv.out.symm, below_drewN hbw _⟩
            · have hvars : Hid (vars = vars2) := list_eq H1.out (fun i x y hx hy => hall i x y (by have := (List.getElem?_eq_some_iff.mp hy).1; omega) hx hy)
              clear hall a0 b0
              go_wp2
              generalize wr = W2 at *
              go_loopw [61] (fun u wr => ∃ k : Nat, k ≤ chans2.length ∧ u = .int .i64 k ∧ (∀ j x y, j < k → chans[j]? = some x → chans2[j]? = some y → x = y) ∧ Below W.heap.size W wr) (fun u _ => chans2.length - (intOf u).toNat)
              case atStart => exact ⟨0, Nat.zero_le _, rfl, fun j x y hj => by omega, hbr⟩
              case round =>
                clear a2 b2 hbw hbr
                obtain ⟨k, hk, rfl, hall, hbr⟩ := hrel
                have a2 := cell_later hbr A2.out
                have b2 := cell_later hbr B2.out
                have a3 := cell_later hbr A3.out
                have b3 := cell_later hbr B3.out
                have hbw : Below w.heap.size w wr := bthen hb hbr
                by_cases hlt : k < chans2.length
                · obtain ⟨x, hx, hxm⟩ := get_lt chans k (by have := H3.out; omega)
                  obtain ⟨y, hy, hym⟩ := get_lt chans2 k hlt
                  obtain ⟨bx, ox, hix, _, c0⟩ := ch_ix (hAL.out.later hbr).2.1 k x hx
                  obtain ⟨bz, oy, hiy, _, e0⟩ := ch_ix (hBL.out.later hbr).2.1 k y hy
                  rw [H3.out] at hix
                  have hklI : (k : Int) < (chans2.length : Int) := by omega
                  clear a3 b3
                  by_cases hxy : x = y
                  · have hxyH : Hid (x = y) := hxy
                    have hxb : (x != y) = false := by simp [hxy]
                    clear hxy
                    go_wp2_with fail
                    go_quiet (fail)
                    go_wp2
                    go_roundw
                    case rel => exact ⟨k + 1, by omega, by go_num, (fun j x' y' hj hx' hy' => by
                      by_cases hjk : j = k
                      · subst hjk; rw [hx] at hx'; rw [hy] at hy'; cases hx'; cases hy'; exact hxyH.out
                      · exact hall j x' y' (by omega) hx' hy'), below_drewN hbr _⟩
                    case measure => simp [intOf]; omega
                  · have hv := not_same hr (fun q => by
                      have q2 : chans = chans2 := congrArg Pr.chans q
                      subst q2
                      rw [hx] at hy
                      cases hy
                      exact hxy rfl)
                    have hxb : (x != y) = true := by simp [hxy]
                    go_wp2_with fail
                    go_quiet (fail)
                    go_wp2
                    go_ret
                    exact ⟨ret_b hv.out.symm, below_drewN hbw _⟩
                · have hchans : Hid (chans = chans2) := list_eq H3.out (fun i x y hx hy => hall i x y (by have := (List.getElem?_eq_some_iff.mp hy).1; omega) hx hy)
                  clear hall a2 b2
                  go_wp2
                  generalize wr = W3 at *
                  go_loopw [79] (fun u wr => ∃ k : Nat, k ≤ fns2.length ∧ u = .int .i64 k ∧ (∀ j x y, j < k → fns[j]? = some x → fns2[j]? = some y → x.fn = y.fn) ∧ Below W.heap.size W wr) (fun u _ => fns2.length - (intOf u).toNat)
                  case atStart => exact ⟨0, Nat.zero_le _, rfl, fun j x y hj => by omega, hbr⟩
                  case round =>
                    clear a3 b3 hbw hbr
                    obtain ⟨k, hk, rfl, hall, hbr⟩ := hrel
                    have hbw : Below w.heap.size w wr := bthen hb hbr
                    by_cases hlt : k < fns2.length
                    · obtain ⟨x, hx, hxm⟩ := get_lt fns k (by have := H4.out; omega)
                      obtain ⟨y, hy, hym⟩ := get_lt fns2 k hlt
                      have hAr := hAL.out.later hbr
                      have hBr := hBL.out.later hbr
                      obtain ⟨bx, ox, hix, hbx, c0, c1, c2, c3⟩ := fn_ix hAr.2.2.1 k x hx
                      obtain ⟨bz, oy, hiy, hbz, e0, e1, e2, e3⟩ := fn_ix hBr.2.2.1 k y hy
                      rw [H4.out] at hix
                      have hklI : (k : Int) < (fns2.length : Int) := by omega
                      have hxl : Hid (x.lies wr) := hAr.2.2.2.2.2.2 x hxm
                      have hyl : Hid (y.lies wr) := hBr.2.2.2.2.2.2 y hym
                      clear hAr hBr
                      obtain ⟨q, hq⟩ : ∃ q : Bool, Hid (q = true ↔ x.fn = y.fn) := by
                        by_cases hh : x.fn = y.fn
                        · exact ⟨true, by simp [Hid, hh]⟩
                        · exact ⟨false, by simp [Hid, hh]⟩
                      have hcall : ∀ wx, Below wr.heap.size wr wx → Calls Tryd.prog 27 #[x.val, y.val] wx _ := fun wx hx' => rsameFunc_any x y wx (hxl.out.later hx') (hyl.out.later hx') q hq
                      have a3 := cell_later hbr A3.out
                      have b3 := cell_later hbr B3.out
                      have K : ∀ w', Below wr.heap.size wr w' → (w'.cell? ⟨w.heap.size, 3, none⟩ = some (.slice fa fns2.length fc) ∧ w'.cell? ⟨w.heap.size + 1, 3, none⟩ = some (.slice fb fns2.length fd) ∧ w'.cell? ⟨bx, ox, none⟩ = some (.int .i64 x.params) ∧ w'.cell? ⟨bx, ox + 1, none⟩ = some (.int .i64 x.regs) ∧ w'.cell? ⟨bx, ox + 2, none⟩ = some (.slice x.ca x.code.length x.ccap) ∧ w'.cell? ⟨bx, ox + 3, none⟩ = some (.slice x.sa x.sels.length x.scap) ∧ w'.cell? ⟨bz, oy, none⟩ = some (.int .i64 y.params) ∧ w'.cell? ⟨bz, oy + 1, none⟩ = some (.int .i64 y.regs) ∧ w'.cell? ⟨bz, oy + 2, none⟩ = some (.slice y.ca y.code.length y.ccap) ∧ w'.cell? ⟨bz, oy + 3, none⟩ = some (.slice y.sa y.sels.length y.scap) ∧ Below wr.heap.size wr w') := fun w' h' => ⟨cell_later h' a3, cell_later h' b3, cell_later h' c0, cell_later h' c1, cell_later h' c2, cell_later h' c3, cell_later h' e0, cell_later h' e1, cell_later h' e2, cell_later h' e3, h'⟩
                      have KH : Hid (∀ w', Below wr.heap.size wr w' → _) := K
                      clear K
                      go_wp2_with fail
                      go_region_held3 (fun w' => w'.cell? ⟨w.heap.size, 3, none⟩ = some (.slice fa fns2.length fc) ∧ w'.cell? ⟨w.heap.size + 1, 3, none⟩ = some (.slice fb fns2.length fd) ∧ w'.cell? ⟨bx, ox, none⟩ = some (.int .i64 x.params) ∧ w'.cell? ⟨bx, ox + 1, none⟩ = some (.int .i64 x.regs) ∧ w'.cell? ⟨bx, ox + 2, none⟩ = some (.slice x.ca x.code.length x.ccap) ∧ w'.cell? ⟨bx, ox + 3, none⟩ = some (.slice x.sa x.sels.length x.scap) ∧ w'.cell? ⟨bz, oy, none⟩ = some (.int .i64 y.params) ∧ w'.cell? ⟨bz, oy + 1, none⟩ = some (.int .i64 y.regs) ∧ w'.cell? ⟨bz, oy + 2, none⟩ = some (.slice y.ca y.code.length y.ccap) ∧ w'.cell? ⟨bz, oy + 3, none⟩ = some (.slice y.sa y.sels.length y.scap) ∧ Below wr.heap.size wr w') ((refine KH.out _ ?_; repeat (first | exact keep10 (by assumption) | assumption | exact Below.refl _ _ | refine Below.drew ?_)))
                        (first | (go_at_call 27; refine (hcall _ (by repeat (first | exact keep10 (by assumption) | exact Below.refl _ _ | refine Below.drew ?_))).mono ?_; rintro e w' ⟨rfl, hb2⟩; have hBW : Below wr.heap.size wr w' := bthen (by repeat (first | exact keep10 (by assumption) | exact Below.refl _ _ | refine Below.drew ?_)) hb2))
                      cases q with
                      | true =>
                        have hxy := hq.out.mp rfl
                        clear hcall KH
                        go_wp2
                        go_roundw
                        case rel => exact ⟨k + 1, by omega, by go_num, (fun j x' y' hj hx' hy' => by
                          by_cases hjk : j = k
                          · subst hjk; rw [hx] at hx'; rw [hy] at hy'; cases hx'; cases hy'; exact hxy
                          · exact hall j x' y' (by omega) hx' hy'), bthen hbr hBW⟩
                        case measure => simp [intOf]; omega
                      | false =>
                        have hv := not_same hr (fun t => by
                          have t2 : fns.map MFn.fn = fns2.map MFn.fn := congrArg Pr.fns t
                          have t3 := congrArg (fun l => l[k]?) t2
                          simp only [List.getElem?_map, hx, hy, Option.map_some, Option.some.injEq] at t3
                          exact absurd (hq.out.mpr t3) (by decide))
                        clear hcall KH
                        go_wp2
                        go_ret
                        exact ⟨ret_b hv.out.symm, bthen hbw hBW⟩
                    · have hsl : fns.map MFn.fn = fns2.map MFn.fn := list_eq (by simp only [List.length_map]; exact H4.out) (fun i x y hx hy => by
                        simp only [List.getElem?_map, Option.map_eq_some_iff] at hx hy
                        obtain ⟨x', hx', rfl⟩ := hx
                        obtain ⟨y', hy', rfl⟩ := hy
                        exact hall i x' y' (by have := (List.getElem?_eq_some_iff.mp hy').1; omega) hx' hy')
                      have hv := is_same hr (pr_eq hvars.out rfl hchans.out hsl)
                      clear hsl hall
                      go_wp2
                      go_ret
                      exact ⟨ret_b hv.out.symm, hbw⟩
        · have hv := not_same hr (fun q => h4 (by have := congrArg (fun f => f.fns.length) q; simpa [MPr.pr] using this))
          have hI : ¬ (A.fns.length : Int) = B.fns.length := by omega
          clear h4 hA hB
          obtain ⟨va, vc, vars, locks, ha, hc, chans, fa, fc, fns⟩ := A
          obtain ⟨vb, vd, vars2, locks2, hb', hd, chans2, fb, fd, fns2⟩ := B
          simp only at h1 h2 h3 hI
          subst h2
          have hIb : ((fns.length : Int) != (fns2.length : Int)) = true := by simpa using hI
          have h1I : (vars.length : Int) = vars2.length := by omega
          have h3I : (chans.length : Int) = chans2.length := by omega
          go_enter Tryd.func11, Tryd.ntmps11
          go_wp2
          go_ret
          exact ⟨ret_b hv.out.symm, boxed2 _ _ _⟩
      · have hv := not_same hr (fun q => h3 (congrArg (fun f => f.chans.length) q))
        have hI : ¬ (A.chans.length : Int) = B.chans.length := by omega
        clear h3 hA hB
        obtain ⟨va, vc, vars, locks, ha, hc, chans, fa, fc, fns⟩ := A
        obtain ⟨vb, vd, vars2, locks2, hb', hd, chans2, fb, fd, fns2⟩ := B
        simp only at h1 h2 hI
        subst h2
        have hIb : ((chans.length : Int) != (chans2.length : Int)) = true := by simpa using hI
        have h1I : (vars.length : Int) = vars2.length := by omega
        go_enter Tryd.func11, Tryd.ntmps11
        go_wp2
        go_ret
        exact ⟨ret_b hv.out.symm, boxed2 _ _ _⟩
    · have hv := not_same hr (fun q => h2 (congrArg Pr.locks q))
      have h2b : (A.locks != B.locks) = true := by simpa using h2
      have h1I : (A.vars.length : Int) = B.vars.length := by omega
      clear hA hB
      go_enter Tryd.func11, Tryd.ntmps11
      go_wp2
      go_ret
      exact ⟨ret_b hv.out.symm, boxed2 _ _ _⟩
  · have hv := not_same hr (fun q => h1 (congrArg (fun f => f.vars.length) q))
    have hI : ¬ (A.vars.length : Int) = B.vars.length := by omega
    clear h1 hA hB
    go_enter Tryd.func11, Tryd.ntmps11
    go_wp2
    go_ret
    exact ⟨ret_b hv.out.symm, boxed2 _ _ _⟩
end Go.Proofs.YtkhfimfjndmdlaaDoor.pg
/- What every statement of package code asks first. -/
namespace Go.Proofs.YtkhfimfjndmdlaaDoor.pg
open Go.ChangeShapes Go.WideShapes Go.ChangeAt Go.RowKit
set_option linter.unusedVariables false
set_option linter.unusedSimpArgs false
set_option maxRecDepth 100000
theorem step_g0 {P : Program} {ops : Array Oper} {o : Oper} {a : Act} {w : World} {K : Act → World → Prop} {Q : Exit → Act → World → Prop} {E : Prop} (hw : Region.wanted o (yielded ops a.tmps) = true) (f : FuncId)
    (ho : o.op = .call { callee := .value (.func f), args := #[], argTypes := #[] }) (hcf : (callFunc f #[]).run P w = .ok (.enter f #[]) w) (R : Ending → World → Prop) (hc : Calls P f #[] w R)
    (hK : ∀ e w', R e w' → ∃ v, e = .returned v ∧ K (a.put o.dst v) w') :
    if Region.wanted o (yielded ops a.tmps) = true then Oper.wp P o a w K Q else E := by
  rw [if_pos hw]
  have hrun : (execOp a.eval o).run P w = .ok (.enter f #[]) w := by
    have hf : a.eval (.func f) = .func (.func f) #[] #[] := rfl
    simp [execOp, ho, resolve, invoke, hf, Deferred.ofValue, hcf]
  unfold Oper.wp
  rw [hrun, Oper.upon_enter]
  refine hc.mono fun e w' h => ?_
  obtain ⟨v, rfl, hk⟩ := hK e w' h
  exact hk
theorem step_g1 {P : Program} {ops : Array Oper} {o : Oper} {a : Act} {w : World} {K : Act → World → Prop} {Q : Exit → Act → World → Prop} {E : Prop} (hw : Region.wanted o (yielded ops a.tmps) = true) (f : FuncId) (x : Operand) (t : TypeId)
    (ho : o.op = .call { callee := .value (.func f), args := #[x], argTypes := #[t] }) (vx : Value) (hx : a.eval x = vx) (hcf : (callFunc f #[vx]).run P w = .ok (.enter f #[vx]) w) (R : Ending → World → Prop) (hc : Calls P f #[vx] w R)
    (hK : ∀ e w', R e w' → ∃ v, e = .returned v ∧ K (a.put o.dst v) w') :
    if Region.wanted o (yielded ops a.tmps) = true then Oper.wp P o a w K Q else E := by
  rw [if_pos hw]
  have hrun : (execOp a.eval o).run P w = .ok (.enter f #[vx]) w := by
    have hf : a.eval (.func f) = .func (.func f) #[] #[] := rfl
    simp [execOp, ho, resolve, invoke, hx, hf, Deferred.ofValue, hcf]
  unfold Oper.wp
  rw [hrun, Oper.upon_enter]
  refine hc.mono fun e w' h => ?_
  obtain ⟨v, rfl, hk⟩ := hK e w' h
  exact hk
theorem step_g2 {P : Program} {ops : Array Oper} {o : Oper} {a : Act} {w : World} {K : Act → World → Prop} {Q : Exit → Act → World → Prop} {E : Prop} (hw : Region.wanted o (yielded ops a.tmps) = true) (f : FuncId) (x y : Operand) (t u : TypeId)
    (ho : o.op = .call { callee := .value (.func f), args := #[x, y], argTypes := #[t, u] }) (vx vy : Value) (hx : a.eval x = vx) (hy : a.eval y = vy) (hcf : (callFunc f #[vx, vy]).run P w = .ok (.enter f #[vx, vy]) w) (R : Ending → World → Prop) (hc : Calls P f #[vx, vy] w R)
    (hK : ∀ e w', R e w' → ∃ v, e = .returned v ∧ K (a.put o.dst v) w') :
    if Region.wanted o (yielded ops a.tmps) = true then Oper.wp P o a w K Q else E := by
  rw [if_pos hw]
  have hrun : (execOp a.eval o).run P w = .ok (.enter f #[vx, vy]) w := by
    have hf : a.eval (.func f) = .func (.func f) #[] #[] := rfl
    simp [execOp, ho, resolve, invoke, hx, hy, hf, Deferred.ofValue, hcf]
  unfold Oper.wp
  rw [hrun, Oper.upon_enter]
  refine hc.mono fun e w' h => ?_
  obtain ⟨v, rfl, hk⟩ := hK e w' h
  exact hk
theorem cf_least (args : Array Value) (w : World) : (callFunc 21 args).run Tryd.prog w = .ok (.enter 21 args) w := cf_any Tryd.func21 (by kernel_rfl) (by kernel_rfl) args w
theorem cf_rsame (args : Array Value) (w : World) : (callFunc 11 args).run Tryd.prog w = .ok (.enter 11 args) w := cf_any Tryd.func11 (by kernel_rfl) (by kernel_rfl) args w
section
variable {w : World}
theorem decode_full (P : Pr) (hok : prOkP P) (B C : Int) (hck : chk insP P = (0, B, C)) (va : Option Addr) (vc : Nat) (hR : Rows w 1 va vc ((fullB P).map u8c)) (hbl : ∀ b ∈ blk va, b < w.heap.size) (hF : prog.Forms w) :
    Calls Tryd.prog 10 #[.slice va (fullB P).length vc] w fun e w' => ∃ m : MPr, e = .returned (.tuple #[m.val, .int .i64 0, .int .i64 0]) ∧ m.pr = P ∧ m.lies w' ∧ Below w.heap.size w w' := by
  have hr := rows_row hR (full_bt P)
  have h1 := hR.1
  rw [List.length_map] at h1
  have h2 := hR.2.1
  have h3 : va = none → (fullB P).length = 0 ∧ vc = 0 := fun e => by
    have := hR.2.2.1 e
    exact ⟨by simpa using congrArg List.length this.1, this.2⟩
  obtain ⟨d1, d2⟩ := dec_enc P hok
  have hl := full_len P hok
  refine (decode_ok hr h3 (.inr hbl) (by omega) h1 (by omega) (fun wx h => hF.later h) d2 0 B C (by rw [d1]; exact hck) rfl).mono fun e w' ⟨m, he, hp, ho, hb⟩ => ?_
  have hw := wf_pr hr.2.1 (n := (fullB P).length) (rdMag (fl (fullB P)) (fullB P).length)
  exact ⟨m, he, hp.trans d1, own_lies ho (by rw [hp]; exact hw), hb⟩
theorem decode_nil (hF : prog.Forms w) : Calls Tryd.prog 10 #[.slice none 0 0] w fun e w' => e = .returned (.tuple #[zeroP.val, .int .i64 40, .int .i64 0]) ∧ Below w.heap.size w w' := by
  obtain ⟨h1, h2⟩ := nil_dS (fun _ => 0)
  have := decode_wrong (row_none w) (fun _ => ⟨rfl, rfl⟩) (.inl rfl) (by omega) (Nat.le_refl _) (by decide) (fun wx h => hF.later h) (by rw [h1]; decide)
  rw [h1, h2] at this
  exact this
theorem encode_full (M : MPr) (hl : M.lies w) (hF : prog.Forms w) (P : Pr) (hP : M.pr = P) (B C : Int) (hA : chk insP P = (0, B, C)) (n : Nat) (hn : (fullB P).length = n) :
    Calls Tryd.prog 7 #[M.val] w fun e w' => ∃ va vc, e = .returned (.tuple #[.slice va n vc, .int .i64 0]) ∧ Rows w' 1 va vc ((fullB P).map u8c) ∧ (∀ b ∈ blk va, b < w'.heap.size) ∧ Below w.heap.size w w' := by
  refine (encode_ok hl hF B C (by rw [hP]; exact hA)).mono fun e w' ⟨va, vc, he, ho, hb⟩ => ?_
  rw [full_M, hP] at ho
  rw [full_M, hP, hn] at he
  exact ⟨va, vc, he, own_rows ho (u8_len _), fun b hb => (blk_lt ho b hb).2, hb⟩
theorem least_is (w : World) : Calls Tryd.prog 21 #[] w fun e w' => ∃ M : MPr, e = .returned M.val ∧ M.pr = leastP ∧ M.lies w' ∧ Below w.heap.size w w' :=
  (least_any w).mono fun e w' ⟨b, he, hl, hb⟩ => ⟨leastM b, he, leastM_pr b, hl, hb⟩
set_option maxHeartbeats 800000 in
theorem speaks_any (hF : prog.Forms w) : Calls Tryd.prog 9 #[] w fun e w' => e = .returned (.bool true) ∧ Below w.heap.size w w' := by
  have c1 := least_is w
  obtain ⟨L, hL⟩ : ∃ L, Hid (fullB leastP = L) := ⟨_, rfl⟩
  obtain ⟨P0, hP0⟩ : ∃ P0, Hid (leastP = P0) := ⟨_, rfl⟩
  have c2 : ∀ wx (M : MPr), Below w.heap.size w wx → M.pr = P0 → M.lies wx → Calls Tryd.prog 7 #[M.val] wx fun e w' => ∃ va vc, e = .returned (.tuple #[.slice va 18 vc, .int .i64 0]) ∧ Rows w' 1 va vc (L.map u8c) ∧ (∀ b ∈ blk va, b < w'.heap.size) ∧ Below wx.heap.size wx w' := fun wx M hx hp hl => by
    rw [← hL.out]
    exact encode_full M hl (hF.later hx) leastP (hp.trans hP0.out.symm) 0 0 least_chk 18 least_len
  have c3 : ∀ wx va vc, Below w.heap.size w wx → Rows wx 1 va vc (L.map u8c) → (∀ b ∈ blk va, b < wx.heap.size) → Calls Tryd.prog 10 #[.slice va 18 vc] wx fun e w' => ∃ m : MPr, e = .returned (.tuple #[m.val, .int .i64 0, .int .i64 0]) ∧ m.pr = P0 ∧ m.lies w' ∧ Below wx.heap.size wx w' := fun wx va vc hx hr hb => by
    have := decode_full leastP least_ok 0 0 least_chk va vc (by rw [hL.out]; exact hr) hb (hF.later hx)
    rw [least_len, hP0.out] at this
    exact this
  have c4 : ∀ wx, Below w.heap.size w wx → Calls Tryd.prog 10 #[.slice none 0 0] wx _ := fun wx hx => decode_nil (hF.later hx)
  have c5 : ∀ wx, Calls Tryd.prog 21 #[] wx fun e w' => ∃ M : MPr, e = .returned M.val ∧ M.pr = P0 ∧ M.lies w' ∧ Below wx.heap.size wx w' := fun wx => by have := least_is wx; rw [hP0.out] at this; exact this
  have c6 : ∀ wx (m M : MPr), m.pr = P0 → M.pr = P0 → m.lies wx → M.lies wx → Calls Tryd.prog 11 #[m.val, M.val] wx _ := fun wx m M hm hM h1 h2 => rsame_any m M wx h1 h2 true ⟨fun _ => by rw [hm, hM], fun _ => rfl⟩
  rw [hP0.out] at c1
  clear hF hL hP0
  go_enter Tryd.func9, Tryd.ntmps9
  go_wp2_with (first
    | (go_at_call 21; (with_reducible refine c1.mono ?_); rintro e w1 ⟨M, rfl, hM, hl1, b1⟩; clear c1)
    | (go_at_call 7; (with_reducible refine (c2 _ _ b1 hM hl1).mono ?_); rintro e w2 ⟨va, vc, rfl, hR2, hb2, b2⟩; (have B2 := bthen b1 b2); (have hR2H : Hid (Rows w2 1 va vc (L.map u8c)) := hR2); (have hb2H : Hid (∀ b ∈ blk va, b < w2.heap.size) := hb2); clear hR2 hb2 c2 hM hl1 b2)
    | (go_at_call 10; (with_reducible refine (c3 _ _ _ B2 hR2H.out hb2H.out).mono ?_); rintro e w3 ⟨m, rfl, hm, hl3, b3⟩; (have hmH : Hid (m.pr = P0) := hm); (have B4 : Hid (Below w.heap.size w (w3.alloc (objP m))) := bthen (bthen B2 b3) (boxed _ _)); (have p3 : Hid ((w3.alloc (objP m)).heap[w3.heap.size]? = some (objP m)) := heap_alloc_new _ _); (have hl4 : Hid (m.lies (w3.alloc (objP m))) := hl3.later (boxed _ _)); clear c3 hm hl3 b3 hR2H hb2H B2)
    | (go_at_call 10; (with_reducible refine (c4 _ B4.out).mono ?_); rintro e w5 ⟨rfl, b5⟩; (have B6 : Hid (Below w.heap.size w (w5.alloc objP0)) := bthen (bthen B4.out b5) (boxed _ _)); (have b46 : Hid (Below (w3.alloc (objP m)).heap.size (w3.alloc (objP m)) (w5.alloc objP0)) := bthen b5 (boxed _ _)); clear c4 b5))
  have hlW : Hid (m.lies (w5.alloc objP0)) := hl4.out.later b46.out
  have pW := (b46.out.block w3.heap.size (by rw [World.size_alloc]; omega)).trans p3.out
  have hBW := B6.out
  generalize w5.alloc objP0 = W at *
  have q0 := whole_cell pW 0 _ rfl
  have q1 := whole_cell pW 1 _ rfl
  have q2 := whole_cell pW 2 _ rfl
  have q3 := whole_cell pW 3 _ rfl
  have ql := (Array.getElem?_eq_some_iff.mp pW).1
  clear p3 hl4 b46 B4 B6 b1
  generalize w3.heap.size = S3 at *
  have keepS : ∀ w', Below W.heap.size W w' → (w'.cell? ⟨S3, 0, none⟩ = some (.slice m.va m.vars.length m.vcap) ∧ w'.cell? ⟨S3, 1, none⟩ = some (.int .i64 m.locks) ∧ w'.cell? ⟨S3, 2, none⟩ = some (.slice m.cha m.chans.length m.chcap) ∧ w'.cell? ⟨S3, 3, none⟩ = some (.slice m.fa m.fns.length m.fcap) ∧ Below W.heap.size W w') := fun w' hb => by
    have p := (hb.block S3 ql).trans pW
    exact ⟨whole_cell p 0 _ rfl, whole_cell p 1 _ rfl, whole_cell p 2 _ rfl, whole_cell p 3 _ rfl, hb⟩
  have keepT : ∀ w', (w'.cell? ⟨S3, 0, none⟩ = some (.slice m.va m.vars.length m.vcap) ∧ w'.cell? ⟨S3, 1, none⟩ = some (.int .i64 m.locks) ∧ w'.cell? ⟨S3, 2, none⟩ = some (.slice m.cha m.chans.length m.chcap) ∧ w'.cell? ⟨S3, 3, none⟩ = some (.slice m.fa m.fns.length m.fcap) ∧ Below W.heap.size W w') → Below W.heap.size W w' := fun w' h => h.2.2.2.2
  have keepH : Hid (∀ w', (w'.cell? ⟨S3, 0, none⟩ = some (.slice m.va m.vars.length m.vcap) ∧ w'.cell? ⟨S3, 1, none⟩ = some (.int .i64 m.locks) ∧ w'.cell? ⟨S3, 2, none⟩ = some (.slice m.cha m.chans.length m.chcap) ∧ w'.cell? ⟨S3, 3, none⟩ = some (.slice m.fa m.fns.length m.fcap) ∧ Below W.heap.size W w') → Below W.heap.size W w') := keepT
  clear q0 q1 q2 q3 keepT
  go_region_held3 (fun w' => w'.cell? ⟨S3, 0, none⟩ = some (.slice m.va m.vars.length m.vcap) ∧ w'.cell? ⟨S3, 1, none⟩ = some (.int .i64 m.locks) ∧ w'.cell? ⟨S3, 2, none⟩ = some (.slice m.cha m.chans.length m.chcap) ∧ w'.cell? ⟨S3, 3, none⟩ = some (.slice m.fa m.fns.length m.fcap) ∧ Below W.heap.size W w') ((refine keepS _ ?_; repeat (first | exact keepH.out _ (by assumption) | assumption | exact Below.refl _ _ | refine Below.drew ?_)))
    (first | (go_at_call 21; refine (c5 _).mono ?_; rintro e w6 ⟨M2, rfl, hM2, hl6, b6⟩; have hB6 : Below W.heap.size W w6 := bthen (by first | exact keepH.out _ (by assumption) | exact Below.refl _ _ | exact (Below.refl _ _).drew) b6) | (go_at_call 11; refine (c6 _ m M2 hmH.out hM2 (hlW.out.later (by first | assumption | exact hB6.drew | exact keepH.out _ (by assumption))) (by first | exact hl6 | exact hl6.later (Below.refl _ _).drew)).mono ?_; rintro e w7 ⟨rfl, b7⟩; have hB7 : Below W.heap.size W w7 := bthen hB6 (by first | exact b7 | exact below_undrew b7)))
  all_goals go_wp2
  all_goals go_ret
  all_goals exact ⟨rfl, bthen hBW hB7⟩
end
end Go.Proofs.YtkhfimfjndmdlaaDoor.pg
