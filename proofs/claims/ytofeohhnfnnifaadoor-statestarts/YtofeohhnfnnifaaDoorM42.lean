/- The contract of the document's own Same. -/
import Derived.Test.YtofeohhnfnnifaaDoorM41
import Derived.Test.YtofeohhnfnnifaaDoorM37
import Derived.Test.YtofeohhnfnnifaaDoorM38
import Derived.Test.YtofeohhnfnnifaaDoorM40
namespace Go.Proofs.YtofeohhnfnnifaaDoor.pg
open Go.ChangeShapes Go.WideShapes Go.ChangeAt Go.RowKit
set_option linter.unusedVariables false
set_option linter.unusedSimpArgs false
set_option maxRecDepth 100000
attribute [local go_sem ↓] Go.wp_at_zero Go.wp_at_succ
theorem keep10 {A0 A1 A2 A3 A4 A5 A6 A7 A8 A9 Q : Prop} (h : A0 ∧ A1 ∧ A2 ∧ A3 ∧ A4 ∧ A5 ∧ A6 ∧ A7 ∧ A8 ∧ A9 ∧ Q) : Q := h.2.2.2.2.2.2.2.2.2.2
theorem pr_eq {A B : MPr} (h1 : A.vars = B.vars) (h2 : A.locks = B.locks) (h3 : A.chans = B.chans) (h4 : A.fns.map MFn.fn = B.fns.map MFn.fn) : A.pr = B.pr := by unfold MPr.pr; rw [h1, h2, h3, h4]
set_option maxHeartbeats 8000000 in
theorem rsame_any (A B : MPr) (w : World) (hA : A.lies w) (hB : B.lies w) (r : Bool) (hr : Hid (r = true ↔ A.pr = B.pr)) :
    Calls Tryd.prog 12 #[A.val, B.val] w fun e w' => e = .returned (.bool r) ∧ Below w.heap.size w w' := by
  by_cases h1 : A.vars.length = B.vars.length
  · by_cases h2 : A.locks = B.locks
    · by_cases h3 : A.chans.length = B.chans.length
      · by_cases h4 : A.fns.length = B.fns.length
        · have hb := boxed2 w (objP A) (objP B)
          have hb2 := boxed (w.alloc (objP A)) (objP B)
          have bA := (boxP_new w A).later hb2
          have bB := boxP_new (w.alloc (objP A)) B
          simp only [World.size_alloc] at bB
          have hAL := hA.later hb
          have hBL := hB.later hb
          have hl1 := rows_len hA.1
          have hl3 := rows_len hA.2.1
          have hl4 := rows_len hA.2.2.1
          have hz : w.heap.size + 1 < ((w.alloc (objP A)).alloc (objP B)).heap.size := by simp only [World.size_alloc]; omega
          clear hb2 hA hB
          obtain ⟨va, vc, vars, locks, ha, hc, chans, fa, fc, fns⟩ := A
          obtain ⟨vb, vd, vars2, locks2, hb', hd, chans2, fb, fd, fns2⟩ := B
          simp only at h1 h2 h3 h4 hl1 hl3 hl4
          subst h2
          simp only [objP] at bA bB hAL hBL hz hb
          rw [h1] at hb hz hAL hBL bA bB hl1
          rw [h3] at hb hz hAL hBL bA bB hl3
          rw [h4] at hb hz hAL hBL bA bB hl4
          show Calls Tryd.prog 12 #[.agg #[.slice va vars.length vc, .int .i64 locks, .slice ha chans.length hc, .slice fa fns.length fc], .agg #[.slice vb vars2.length vd, .int .i64 locks, .slice hb' chans2.length hd, .slice fb fns2.length fd]] w _
          rw [h1, h3, h4]
          have H1 : Hid (vars.length = vars2.length) := h1
          have H3 : Hid (chans.length = chans2.length) := h3
          have H4 : Hid (fns.length = fns2.length) := h4
          clear h1 h3 h4
          go_enter Tryd.func12, Tryd.ntmps12
          go_wp2
          generalize (w.alloc (.cells #[.slice va vars2.length vc, .int .i64 locks, .slice ha chans2.length hc, .slice fa fns2.length fc] 26)).alloc (.cells #[.slice vb vars2.length vd, .int .i64 locks, .slice hb' chans2.length hd, .slice fb fns2.length fd] 26) = W at *
          have A0 : Hid (W.cell? ⟨w.heap.size, 0, none⟩ = some (.slice va vars2.length vc)) := by have q := bA.1; simp only at q; rw [H1.out] at q; exact q
          have A2 : Hid (W.cell? ⟨w.heap.size, 2, none⟩ = some (.slice ha chans2.length hc)) := by have q := bA.2.2.1; simp only at q; rw [H3.out] at q; exact q
          have A3 : Hid (W.cell? ⟨w.heap.size, 3, none⟩ = some (.slice fa fns2.length fc)) := by have q := bA.2.2.2; simp only at q; rw [H4.out] at q; exact q
          have B0 : Hid (W.cell? ⟨w.heap.size + 1, 0, none⟩ = some (.slice vb vars2.length vd)) := bB.1
          have B2 : Hid (W.cell? ⟨w.heap.size + 1, 2, none⟩ = some (.slice hb' chans2.length hd)) := bB.2.2.1
          have B3 : Hid (W.cell? ⟨w.heap.size + 1, 3, none⟩ = some (.slice fb fns2.length fd)) := bB.2.2.2
          have hAL : Hid (MPr.lies W ⟨va, vc, vars, locks, ha, hc, chans, fa, fc, fns⟩) := hAL
          have hBL : Hid (MPr.lies W ⟨vb, vd, vars2, locks, hb', hd, chans2, fb, fd, fns2⟩) := hBL
          clear bA bB
          go_loopw [43] (fun u wr => ∃ k : Nat, k ≤ vars2.length ∧ u = .int .i64 k ∧ (∀ j x y, j < k → vars[j]? = some x → vars2[j]? = some y → x = y) ∧ Below W.heap.size W wr) (fun u _ => vars2.length - (intOf u).toNat)
          case atStart => exact ⟨0, Nat.zero_le _, rfl, fun j x y hj => by omega, Below.refl _ _⟩
          case round =>
            obtain ⟨k, hk, rfl, hall, hbr⟩ := hrel
            have a0 := cell_later hbr A0.out
            have b0 := cell_later hbr B0.out
            have a2 := cell_later hbr A2.out
            have b2 := cell_later hbr B2.out
            have hbw : Below w.heap.size w wr := bthen hb hbr
            by_cases hlt : k < vars2.length
            · obtain ⟨x, hx, hxm⟩ := get_lt vars k (by have := H1.out; omega)
              obtain ⟨y, hy, hym⟩ := get_lt vars2 k hlt
              obtain ⟨bx, ox, hix, _, c0, c1⟩ := vr_ix (hAL.out.later hbr).1 k x hx
              obtain ⟨bz, oy, hiy, _, e0, e1⟩ := vr_ix (hBL.out.later hbr).1 k y hy
              rw [H1.out] at hix
              have hklI : (k : Int) < (vars2.length : Int) := by omega
              have hne := run_neV x y
              cases hq : eqV x y with
              | true =>
                rw [hq] at hne
                have hxy : Hid (x = y) := (eqV_iff x y).mp hq
                clear hq a2 b2
                go_wp2_with fail
                go_quiet (fail)
                go_wp2
                go_roundw
                case rel => exact ⟨k + 1, by omega, by go_num, (fun j x' y' hj hx' hy' => by
                  by_cases hjk : j = k
                  · subst hjk; rw [hx] at hx'; rw [hy] at hy'; cases hx'; cases hy'; exact hxy.out
                  · exact hall j x' y' (by omega) hx' hy'), below_drewN hbr _⟩
                case measure => simp [intOf]; omega
              | false =>
                rw [hq] at hne
                have hv := not_same hr (fun q => by
                  have q2 : vars = vars2 := congrArg Pr.vars q
                  subst q2
                  rw [hx] at hy
                  cases hy
                  have := (eqV_iff x x).mpr rfl
                  rw [hq] at this
                  exact absurd this (by decide))
                clear hq a2 b2
                go_wp2_with fail
                go_quiet (fail)
                go_wp2
                go_ret
                exact ⟨ret_b hv.out.symm, below_drewN hbw _⟩
            · have hvars : Hid (vars = vars2) := list_eq H1.out (fun i x y hx hy => hall i x y (by have := (List.getElem?_eq_some_iff.mp hy).1; omega) hx hy)
              clear hall a0 b0
              go_wp2
              generalize wr = W2 at *
              go_loopw [61] (fun u wr => ∃ k : Nat, k ≤ chans2.length ∧ u = .int .i64 k ∧ (∀ j x y, j < k → chans[j]? = some x → chans2[j]? = some y → x = y) ∧ Below W.heap.size W wr) (fun u _ => chans2.length - (intOf u).toNat)
              case atStart => exact ⟨0, Nat.zero_le _, rfl, fun j x y hj => by omega, hbr⟩
              case round =>
                clear a2 b2 hbw hbr
                obtain ⟨k, hk, rfl, hall, hbr⟩ := hrel
                have a2 := cell_later hbr A2.out
                have b2 := cell_later hbr B2.out
                have a3 := cell_later hbr A3.out
                have b3 := cell_later hbr B3.out
                have hbw : Below w.heap.size w wr := bthen hb hbr
                by_cases hlt : k < chans2.length
                · obtain ⟨x, hx, hxm⟩ := get_lt chans k (by have := H3.out; omega)
                  obtain ⟨y, hy, hym⟩ := get_lt chans2 k hlt
                  obtain ⟨bx, ox, hix, _, c0⟩ := ch_ix (hAL.out.later hbr).2.1 k x hx
                  obtain ⟨bz, oy, hiy, _, e0⟩ := ch_ix (hBL.out.later hbr).2.1 k y hy
                  rw [H3.out] at hix
                  have hklI : (k : Int) < (chans2.length : Int) := by omega
                  clear a3 b3
                  by_cases hxy : x = y
                  · have hxyH : Hid (x = y) := hxy
                    have hxb : (x != y) = false := by simp [hxy]
                    clear hxy
                    go_wp2_with fail
                    go_quiet (fail)
                    go_wp2
                    go_roundw
                    case rel => exact ⟨k + 1, by omega, by go_num, (fun j x' y' hj hx' hy' => by
                      by_cases hjk : j = k
                      · subst hjk; rw [hx] at hx'; rw [hy] at hy'; cases hx'; cases hy'; exact hxyH.out
                      · exact hall j x' y' (by omega) hx' hy'), below_drewN hbr _⟩
                    case measure => simp [intOf]; omega
                  · have hv := not_same hr (fun q => by
                      have q2 : chans = chans2 := congrArg Pr.chans q
                      subst q2
                      rw [hx] at hy
                      cases hy
                      exact hxy rfl)
                    have hxb : (x != y) = true := by simp [hxy]
                    go_wp2_with fail
                    go_quiet (fail)
                    go_wp2
                    go_ret
                    exact ⟨ret_b hv.out.symm, below_drewN hbw _⟩
                · have hchans : Hid (chans = chans2) := list_eq H3.out (fun i x y hx hy => hall i x y (by have := (List.getElem?_eq_some_iff.mp hy).1; omega) hx hy)
                  clear hall a2 b2
                  go_wp2
                  generalize wr = W3 at *
                  go_loopw [79] (fun u wr => ∃ k : Nat, k ≤ fns2.length ∧ u = .int .i64 k ∧ (∀ j x y, j < k → fns[j]? = some x → fns2[j]? = some y → x.fn = y.fn) ∧ Below W.heap.size W wr) (fun u _ => fns2.length - (intOf u).toNat)
                  case atStart => exact ⟨0, Nat.zero_le _, rfl, fun j x y hj => by omega, hbr⟩
                  case round =>
                    clear a3 b3 hbw hbr
                    obtain ⟨k, hk, rfl, hall, hbr⟩ := hrel
                    have hbw : Below w.heap.size w wr := bthen hb hbr
                    by_cases hlt : k < fns2.length
                    · obtain ⟨x, hx, hxm⟩ := get_lt fns k (by have := H4.out; omega)
                      obtain ⟨y, hy, hym⟩ := get_lt fns2 k hlt
                      have hAr := hAL.out.later hbr
                      have hBr := hBL.out.later hbr
                      obtain ⟨bx, ox, hix, hbx, c0, c1, c2, c3⟩ := fn_ix hAr.2.2.1 k x hx
                      obtain ⟨bz, oy, hiy, hbz, e0, e1, e2, e3⟩ := fn_ix hBr.2.2.1 k y hy
                      rw [H4.out] at hix
                      have hklI : (k : Int) < (fns2.length : Int) := by omega
                      have hxl : Hid (x.lies wr) := hAr.2.2.2.2.2.2 x hxm
                      have hyl : Hid (y.lies wr) := hBr.2.2.2.2.2.2 y hym
                      clear hAr hBr
                      obtain ⟨q, hq⟩ : ∃ q : Bool, Hid (q = true ↔ x.fn = y.fn) := by
                        by_cases hh : x.fn = y.fn
                        · exact ⟨true, by simp [Hid, hh]⟩
                        · exact ⟨false, by simp [Hid, hh]⟩
                      have hcall : ∀ wx, Below wr.heap.size wr wx → Calls Tryd.prog 23 #[x.val, y.val] wx _ := fun wx hx' => rsameFunc_any x y wx (hxl.out.later hx') (hyl.out.later hx') q hq
                      have a3 := cell_later hbr A3.out
                      have b3 := cell_later hbr B3.out
                      have K : ∀ w', Below wr.heap.size wr w' → (w'.cell? ⟨w.heap.size, 3, none⟩ = some (.slice fa fns2.length fc) ∧ w'.cell? ⟨w.heap.size + 1, 3, none⟩ = some (.slice fb fns2.length fd) ∧ w'.cell? ⟨bx, ox, none⟩ = some (.int .i64 x.params) ∧ w'.cell? ⟨bx, ox + 1, none⟩ = some (.int .i64 x.regs) ∧ w'.cell? ⟨bx, ox + 2, none⟩ = some (.slice x.ca x.code.length x.ccap) ∧ w'.cell? ⟨bx, ox + 3, none⟩ = some (.slice x.sa x.sels.length x.scap) ∧ w'.cell? ⟨bz, oy, none⟩ = some (.int .i64 y.params) ∧ w'.cell? ⟨bz, oy + 1, none⟩ = some (.int .i64 y.regs) ∧ w'.cell? ⟨bz, oy + 2, none⟩ = some (.slice y.ca y.code.length y.ccap) ∧ w'.cell? ⟨bz, oy + 3, none⟩ = some (.slice y.sa y.sels.length y.scap) ∧ Below wr.heap.size wr w') := fun w' h' => ⟨cell_later h' a3, cell_later h' b3, cell_later h' c0, cell_later h' c1, cell_later h' c2, cell_later h' c3, cell_later h' e0, cell_later h' e1, cell_later h' e2, cell_later h' e3, h'⟩
                      have KH : Hid (∀ w', Below wr.heap.size wr w' → _) := K
                      clear K
                      go_wp2_with fail
                      go_region_held3 (fun w' => w'.cell? ⟨w.heap.size, 3, none⟩ = some (.slice fa fns2.length fc) ∧ w'.cell? ⟨w.heap.size + 1, 3, none⟩ = some (.slice fb fns2.length fd) ∧ w'.cell? ⟨bx, ox, none⟩ = some (.int .i64 x.params) ∧ w'.cell? ⟨bx, ox + 1, none⟩ = some (.int .i64 x.regs) ∧ w'.cell? ⟨bx, ox + 2, none⟩ = some (.slice x.ca x.code.length x.ccap) ∧ w'.cell? ⟨bx, ox + 3, none⟩ = some (.slice x.sa x.sels.length x.scap) ∧ w'.cell? ⟨bz, oy, none⟩ = some (.int .i64 y.params) ∧ w'.cell? ⟨bz, oy + 1, none⟩ = some (.int .i64 y.regs) ∧ w'.cell? ⟨bz, oy + 2, none⟩ = some (.slice y.ca y.code.length y.ccap) ∧ w'.cell? ⟨bz, oy + 3, none⟩ = some (.slice y.sa y.sels.length y.scap) ∧ Below wr.heap.size wr w') ((refine KH.out _ ?_; repeat (first | exact keep10 (by assumption) | assumption | exact Below.refl _ _ | refine Below.drew ?_)))
                        (first | (go_at_call 23; refine (hcall _ (by repeat (first | exact keep10 (by assumption) | exact Below.refl _ _ | refine Below.drew ?_))).mono ?_; rintro e w' ⟨rfl, hb2⟩; have hBW : Below wr.heap.size wr w' := bthen (by repeat (first | exact keep10 (by assumption) | exact Below.refl _ _ | refine Below.drew ?_)) hb2))
                      cases q with
                      | true =>
                        have hxy := hq.out.mp rfl
                        clear hcall KH
                        go_wp2
                        go_roundw
                        case rel => exact ⟨k + 1, by omega, by go_num, (fun j x' y' hj hx' hy' => by
                          by_cases hjk : j = k
                          · subst hjk; rw [hx] at hx'; rw [hy] at hy'; cases hx'; cases hy'; exact hxy
                          · exact hall j x' y' (by omega) hx' hy'), bthen hbr hBW⟩
                        case measure => simp [intOf]; omega
                      | false =>
                        have hv := not_same hr (fun t => by
                          have t2 : fns.map MFn.fn = fns2.map MFn.fn := congrArg Pr.fns t
                          have t3 := congrArg (fun l => l[k]?) t2
                          simp only [List.getElem?_map, hx, hy, Option.map_some, Option.some.injEq] at t3
                          exact absurd (hq.out.mpr t3) (by decide))
                        clear hcall KH
                        go_wp2
                        go_ret
                        exact ⟨ret_b hv.out.symm, bthen hbw hBW⟩
                    · have hsl : fns.map MFn.fn = fns2.map MFn.fn := list_eq (by simp only [List.length_map]; exact H4.out) (fun i x y hx hy => by
                        simp only [List.getElem?_map, Option.map_eq_some_iff] at hx hy
                        obtain ⟨x', hx', rfl⟩ := hx
                        obtain ⟨y', hy', rfl⟩ := hy
                        exact hall i x' y' (by have := (List.getElem?_eq_some_iff.mp hy').1; omega) hx' hy')
                      have hv := is_same hr (pr_eq hvars.out rfl hchans.out hsl)
                      clear hsl hall
                      go_wp2
                      go_ret
                      exact ⟨ret_b hv.out.symm, hbw⟩
        · have hv := not_same hr (fun q => h4 (by have := congrArg (fun f => f.fns.length) q; simpa [MPr.pr] using this))
          have hI : ¬ (A.fns.length : Int) = B.fns.length := by omega
          clear h4 hA hB
          obtain ⟨va, vc, vars, locks, ha, hc, chans, fa, fc, fns⟩ := A
          obtain ⟨vb, vd, vars2, locks2, hb', hd, chans2, fb, fd, fns2⟩ := B
          simp only at h1 h2 h3 hI
          subst h2
          have hIb : ((fns.length : Int) != (fns2.length : Int)) = true := by simpa using hI
          have h1I : (vars.length : Int) = vars2.length := by omega
          have h3I : (chans.length : Int) = chans2.length := by omega
          go_enter Tryd.func12, Tryd.ntmps12
          go_wp2
          go_ret
          exact ⟨ret_b hv.out.symm, boxed2 _ _ _⟩
      · have hv := not_same hr (fun q => h3 (congrArg (fun f => f.chans.length) q))
        have hI : ¬ (A.chans.length : Int) = B.chans.length := by omega
        clear h3 hA hB
        obtain ⟨va, vc, vars, locks, ha, hc, chans, fa, fc, fns⟩ := A
        obtain ⟨vb, vd, vars2, locks2, hb', hd, chans2, fb, fd, fns2⟩ := B
        simp only at h1 h2 hI
        subst h2
        have hIb : ((chans.length : Int) != (chans2.length : Int)) = true := by simpa using hI
        have h1I : (vars.length : Int) = vars2.length := by omega
        go_enter Tryd.func12, Tryd.ntmps12
        go_wp2
        go_ret
        exact ⟨ret_b hv.out.symm, boxed2 _ _ _⟩
    · have hv := not_same hr (fun q => h2 (congrArg Pr.locks q))
      have h2b : (A.locks != B.locks) = true := by simpa using h2
      have h1I : (A.vars.length : Int) = B.vars.length := by omega
      clear hA hB
      go_enter Tryd.func12, Tryd.ntmps12
      go_wp2
      go_ret
      exact ⟨ret_b hv.out.symm, boxed2 _ _ _⟩
  · have hv := not_same hr (fun q => h1 (congrArg (fun f => f.vars.length) q))
    have hI : ¬ (A.vars.length : Int) = B.vars.length := by omega
    clear h1 hA hB
    go_enter Tryd.func12, Tryd.ntmps12
    go_wp2
    go_ret
    exact ⟨ret_b hv.out.symm, boxed2 _ _ _⟩
end Go.Proofs.YtofeohhnfnnifaaDoor.pg
/- StateStarts, walked. -/
namespace Go.Proofs.YtofeohhnfnnifaaDoor.pg
open Go.ChangeShapes Go.WideShapes Go.ChangeAt Go.RowKit
set_option linter.unusedVariables false
set_option linter.unusedSimpArgs false
set_option maxRecDepth 100000
theorem startR_wf {w : World} {M : MPr} (hM : M.lies w) (f : Int) {x : Sts} {e : Int} (he : (x, e) = startR M.pr f) : x.wf := by
  unfold startR at he
  split at he
  · split at he
    · obtain ⟨rfl, _⟩ := Prod.mk.inj he
      exact (start_valid hapF (by assumption) (prI_of hM) hM.2.2.2.1 _).2
    · obtain ⟨rfl, _⟩ := Prod.mk.inj he
      exact zeroS_wf
  · obtain ⟨rfl, _⟩ := Prod.mk.inj he
    exact zeroS_wf
set_option maxHeartbeats 4000000 in
theorem starts_any (M : MPr) (f : Int) (w : World) (hM : M.lies w) (hz : M.sz) (hF : prog.Forms w) : Calls Tryd.prog 3 #[M.val, .int .i64 f] w fun e w' => e = .returned (.bool true) ∧ Below w.heap.size w w' := by
  obtain ⟨x, e, he⟩ : ∃ x e, Hid ((x, e) = startR M.pr f) := ⟨_, _, rfl⟩
  have hx : Hid x.wf := startR_wf hM f he.out
  have hb := boxed w (objP M)
  have xC := copy_any M _ (hM.later hb) hz
  have bP := boxP_new w M
  have bPH : Hid (BoxP (w.alloc (objP M)) w.heap.size M) := bP
  have hMH : Hid (M.lies w) := hM
  have hFH : Hid (prog.Forms w) := hF
  have hbH : Hid (Below w.heap.size w (w.alloc (objP M))) := hb
  have huS : Hid (Tryd.prog.underlying 38 = _) := Tryd.underlying38
  have hxi : Hid ((Tryd.prog.info? 38).map (·.size) = some x.cells.toArray.size) := infoS hx.out
  have hxs : Hid (zeroS.cells.toArray.size = x.cells.toArray.size) := sizeSS zeroS_wf hx.out
  have hx1 := oneS x
  have heq := eql_st hx.out hx.out true (by simp)
  clear hM hF hz hb
  go_enter Tryd.func3, Tryd.ntmps3
  go_upto_region 1 with fail
  generalize w.alloc (objP M) = W at *
  obtain ⟨p0, p1, p2, p3⟩ := bP
  go_upto_region 2 with (go_at_call 9; (with_reducible refine xC.mono ?_); rintro e' w2 ⟨N, rfl, hcop, hb2⟩)
  have hNp : M.pr = N.pr := hcop.pr
  have hNl : N.lies w2 := hcop.lies (hMH.out.later hbH.out)
  have hbN := boxed w2 (objP N)
  have bN : Hid (BoxP (w2.alloc (objP N)) w2.heap.size N) := boxP_new w2 N
  have hNlH : Hid (N.lies (w2.alloc (objP N))) := hNl.later hbN
  have hWN : Hid (Below W.heap.size W (w2.alloc (objP N))) := bthen hb2 hbN
  have xA := start_any N f (w2.alloc (objP N)) hNlH.out (hFH.out.later (bthen hbH.out hWN.out)) x e (by show _ = _; rw [← hNp]; exact he.out)
  have hNpH : Hid (M.pr = N.pr) := hNp
  generalize w2.alloc (objP N) = V at *
  generalize w2.heap.size = NB at *
  clear hcop hNl hbN hb2 xC p0 p1 p2 p3 hNp
  obtain ⟨n0, n1, n2, n3⟩ := bN.out
  go_upto_region 3 with (first
    | (go_at_call 10; (refine xA.mono ?_); rintro e' w3 ⟨rfl, hb3⟩; (have hzi : (w3.alloc (objSt zeroS)).heap[w3.heap.size]? = some (objSt zeroS) := heap_alloc_new w3 _))
    | (refine wpList_alloc_big rfl 38 rfl zv_S ?_)
    | (refine wpList_store_row rfl 38 _ _ rfl w3.heap.size x.cells.toArray rfl rfl _ _ hzi hxi.out hxs.out hx1 ?_))
  try simp only [Act.put, List.setIfInBounds_toArray, List.set_cons_zero, List.set_cons_succ]
  have hS1 : Hid (InS ((w3.alloc (objSt zeroS)).setRow w3.heap.size x.cells.toArray) w3.heap.size x) := setRow_heap _ _ _ _ _ _ hzi
  have hbw : Below V.heap.size V ((w3.alloc (objSt zeroS)).setRow w3.heap.size x.cells.toArray) := below_setRowG (bthen hb3 (boxed _ _)) hb3.size _
  have hW1 : Hid (Below W.heap.size W ((w3.alloc (objSt zeroS)).setRow w3.heap.size x.cells.toArray)) := bthen hWN.out hbw
  have bN1 : Hid (BoxP ((w3.alloc (objSt zeroS)).setRow w3.heap.size x.cells.toArray) NB N) := bN.out.later hbw
  have hNl1 : Hid (N.lies ((w3.alloc (objSt zeroS)).setRow w3.heap.size x.cells.toArray)) := hNlH.out.later hbw
  generalize (w3.alloc (objSt zeroS)).setRow w3.heap.size x.cells.toArray = U at *
  generalize w3.heap.size = SB at *
  clear hzi hb3 xA hbw n0 n1 n2 n3
  obtain ⟨p0, p1, p2, p3⟩ := bPH.out.later hW1.out
  have xB := rstart_any M f U (hMH.out.later (bthen hbH.out hW1.out)) x e he
  go_upto_region 4 with (first
    | (go_at_call 11; (refine xB.mono ?_); rintro e' w4 ⟨rfl, hb4⟩; (have hzi : (w4.alloc (objSt zeroS)).heap[w4.heap.size]? = some (objSt zeroS) := heap_alloc_new w4 _))
    | (refine wpList_alloc_big rfl 38 rfl zv_S ?_)
    | (refine wpList_store_row rfl 38 _ _ rfl w4.heap.size x.cells.toArray rfl rfl _ _ hzi hxi.out hxs.out hx1 ?_))
  try simp only [Act.put, List.setIfInBounds_toArray, List.set_cons_zero, List.set_cons_succ]
  have hT1 : InS ((w4.alloc (objSt zeroS)).setRow w4.heap.size x.cells.toArray) w4.heap.size x := setRow_heap _ _ _ _ _ _ hzi
  have hbw : Below U.heap.size U ((w4.alloc (objSt zeroS)).setRow w4.heap.size x.cells.toArray) := below_setRowG (bthen hb4 (boxed _ _)) hb4.size _
  have hS2 : InS ((w4.alloc (objSt zeroS)).setRow w4.heap.size x.cells.toArray) SB x := hS1.out.later hbw
  have hW2 : Hid (Below W.heap.size W ((w4.alloc (objSt zeroS)).setRow w4.heap.size x.cells.toArray)) := bthen hW1.out hbw
  have bN2 := bN1.out.later hbw
  have hNl2 : Hid (N.lies ((w4.alloc (objSt zeroS)).setRow w4.heap.size x.cells.toArray)) := hNl1.out.later hbw
  generalize (w4.alloc (objSt zeroS)).setRow w4.heap.size x.cells.toArray = Y at *
  generalize w4.heap.size = TB at *
  clear hzi hb4 xB hbw p0 p1 p2 p3
  obtain ⟨p0, p1, p2, p3⟩ := bPH.out.later hW2.out
  obtain ⟨n0, n1, n2, n3⟩ := bN2
  have xR := rsame_any N M Y hNl2.out (hMH.out.later (bthen hbH.out hW2.out)) true ⟨fun _ => hNpH.out.symm, fun _ => rfl⟩
  have cS : ∀ Z, Below Y.heap.size Y Z → Calls Tryd.prog 13 #[] Z _ := fun Z hZ => smallS_any Z (hFH.out.later (bthen (bthen hbH.out hW2.out) hZ))
  clear he
  go_wp2_with (first
    | (refine wpList_load_row rfl 38 _ rfl SB rfl _ _ _ _ hS2 huS.out rfl hxi.out ?_)
    | (refine wpList_load_row rfl 38 _ rfl TB rfl _ _ _ _ hT1 huS.out rfl hxi.out ?_)
    | (go_at_call 12; (with_reducible refine xR.mono ?_); rintro e' w5 ⟨rfl, hb5⟩; (have xS := cS w5 hb5))
    | (go_at_call 13; (refine xS.mono ?_); rintro e' w6 ⟨rfl, hb6⟩))
  go_ret
  exact ⟨by simp, bthen (bthen (bthen hbH.out hW2.out) hb5) hb6⟩
end Go.Proofs.YtofeohhnfnnifaaDoor.pg
