/- What is written is read: the least program, and every right one. -/
import Derived.Test.YtonkcnaijcpfdaaGreatDoorM23
import Derived.Test.YtonkcnaijcpfdaaGreatDoorM18
namespace Go.Proofs.YtonkcnaijcpfdaaGreatDoor.pg
open Go.ChangeShapes Go.WideShapes Go.ChangeAt Go.RowKit
set_option linter.unusedVariables false
set_option linter.unusedSimpArgs false
set_option maxRecDepth 100000
theorem crc_congr (f g : Nat → Nat) (k : Nat) (h : ∀ i, i < k → f i = g i) : octet.crc f k = octet.crc g k := by
  induction k with
  | zero => rfl
  | succ k ih => show octet.iter 8 _ = octet.iter 8 _; rw [ih fun i hi => h i (by omega), h k (by omega)]
theorem has_fl (L : List Nat) : Has (fl L) L.length 0 L := ⟨by omega, fun i b hb => by rw [Nat.zero_add]; unfold fl; rw [List.getD_eq_getElem?_getD, hb]; rfl⟩
theorem fl_app (E S : List Nat) (i : Nat) (h : i < E.length) : fl (E ++ S) i = fl E i := by
  unfold fl
  rw [List.getD_eq_getElem?_getD, List.getD_eq_getElem?_getD, List.getElem?_append_left h]
/-- The bytes of a program, with their sum. -/
def fullB (P : Pr) : List Nat := (magicB ++ encP P) ++ sumB (sumOf (fl (magicB ++ encP P)) (magicB ++ encP P).length)
theorem full_M (M : MPr) : encB M ++ sumB (sumOf (fl (encB M)) (encB M).length) = fullB M.pr := by rw [encB_pr]; rfl
theorem dec_enc (P : Pr) (h : prOkP P) : (dPr (fl (fullB P)) (fullB P).length).1 = P ∧ (dS (fl (fullB P)) (fullB P).length).e = 0 := by
  have H := has_fl (fullB P)
  have hn : (fullB P).length = 5 + (encP P).length + 4 := by unfold fullB; rw [List.length_append, List.length_append]; rfl
  have hsum : sumOf (fl (fullB P)) (5 + (encP P).length) = sumOf (fl (magicB ++ encP P)) (magicB ++ encP P).length := by
    have e : (magicB ++ encP P).length = 5 + (encP P).length := by rw [List.length_append]; rfl
    rw [e]
    unfold sumOf
    rw [crc_congr (fl (fullB P)) (fl (magicB ++ encP P)) _ fun i hi => fl_app _ _ i (by rw [e]; exact hi)]
  generalize hf : fl (fullB P) = f at *
  generalize hN : (fullB P).length = n at *
  have H2 := H
  unfold fullB at H2
  obtain ⟨H3, h3⟩ := Has.app.mp H2
  obtain ⟨h1, h2⟩ := Has.app.mp H3
  have e5 : magicB.length = 5 := rfl
  rw [e5, Nat.zero_add] at h2
  rw [← hsum, List.length_append, e5, Nat.zero_add] at h3
  have hm : rdMag f n = ⟨5, 0, 0⟩ := by unfold rdMag; rw [if_neg (by omega), if_pos (hasB_iff.mpr h1)]
  obtain ⟨a', e1⟩ := fwd_pr P h 5 0 h2
  have hd : dPr f n = (P, ⟨5 + (encP P).length, 0, a'⟩) := by unfold dPr; rw [hm, e1]
  refine ⟨by rw [hd], ?_⟩
  have hs : rdSum f n ⟨5 + (encP P).length, 0, a'⟩ = ⟨5 + (encP P).length + 4, 0, 5 + (encP P).length⟩ := by
    show (if (0 : Int) = 0 then (if n < 5 + (encP P).length + 4 then _ else (⟨5 + (encP P).length + 4, if hasB f n (5 + (encP P).length) (sumB (sumOf f (5 + (encP P).length))) = true then 0 else 41, 5 + (encP P).length⟩ : RS)) else _) = _
    rw [if_pos rfl, if_neg (show ¬ n < 5 + (encP P).length + 4 by omega), if_pos (hasB_iff.mpr h3)]
  unfold dS
  rw [hd]
  show (rdEnd n (rdSum f n ⟨5 + (encP P).length, 0, a'⟩)).e = 0
  rw [hs]
  show (if (0 : Int) = 0 then (⟨5 + (encP P).length + 4, octet.endOf n (5 + (encP P).length + 4), 5 + (encP P).length + 4⟩ : RS) else _).e = 0
  rw [if_pos rfl]
  show octet.endOf n (5 + (encP P).length + 4) = 0
  unfold octet.endOf
  rw [if_neg (by omega)]
theorem bt_magic : Bt magicB := by decide
theorem full_bt (P : Pr) : Bt (fullB P) := bt_app (bt_app bt_magic (bt_enc _)) (by
  have hx : sumOf (fl (magicB ++ encP P)) (magicB ++ encP P).length < 4294967296 := by unfold sumOf; omega
  intro b hb
  obtain ⟨i, hi, rfl⟩ := List.getElem_of_mem hb
  have := sumB_lt _ hx i
  rw [List.getD_eq_getElem?_getD, List.getElem?_eq_getElem hi] at this
  exact this)
theorem full_len (P : Pr) (h : prOkP P) : (fullB P).length ≤ 50000 := by
  have := enc_le _ h
  unfold fullB
  rw [List.length_append, List.length_append]
  show 5 + _ + 4 ≤ _
  omega
def leastP : Pr := ⟨[], 0, [], [⟨0, 0, [⟨45, 0, 0, 0, 0⟩], []⟩]⟩
theorem least_chk : chk insP leastP = (0, 0, 0) := by decide
theorem least_ok : prOkP leastP := right_ok (by rw [least_chk]) (by simp [leastP]) (by intro f hf i hi; simp only [leastP, List.mem_singleton] at hf; subst hf; simp only [List.mem_singleton] at hi; subst hi; exact i64_zero)
theorem least_len : (fullB leastP).length = 18 := by
  unfold fullB
  rw [List.length_append, List.length_append]
  show 5 + (encP leastP).length + 4 = 18
  have : (encP leastP).length = 9 := by decide
  omega
theorem nil_dS (f : Nat → Nat) : (dS f 0).e = 40 ∧ (dS f 0).at_ = 0 := by
  have hm : rdMag f 0 = ⟨0, 40, 0⟩ := by
    unfold rdMag
    rw [if_pos (by omega), if_neg (fun h => by have := (hasB_iff.mp h).1; simp at this)]
  have hd : (dPr f 0).2 = ⟨0, 40, 0⟩ := by unfold dPr; rw [hm]; rfl
  unfold dS
  rw [hd]
  exact ⟨rfl, rfl⟩
abbrev leastM (b : Nat) : MPr := ⟨none, 0, [], 0, none, 0, [], some ⟨b + 1, 0, none⟩, 1, [⟨0, 0, some ⟨b, 0, none⟩, 1, [⟨45, 0, 0, 0, 0⟩], none, 0, []⟩]⟩
theorem leastM_pr (b : Nat) : (leastM b).pr = leastP := rfl
theorem leastM_lies {w : World} {b : Nat} (h0 : w.heap[b]? = some (.cells #[.int .i64 45, .int .i64 0, .int .i64 0, .int .i64 0, .int .i64 0] 85 (0, 0))) (h1 : w.heap[b + 1]? = some (.cells #[.int .i64 0, .int .i64 0, .slice (some ⟨b, 0, none⟩) 1 1, .slice none 0 0] 56 (0, 0))) : (leastM b).lies w := by
  have z := i64_zero
  have q : I64 45 := by unfold I64; omega
  refine ⟨⟨Nat.le_refl _, Nat.zero_le _, fun _ => ⟨rfl, rfl⟩, .inl rfl⟩, ⟨Nat.le_refl _, Nat.zero_le _, fun _ => ⟨rfl, rfl⟩, .inl rfl⟩, rows_one h1 rfl, by simp, z, by simp, fun f hf => ?_⟩
  simp only [List.mem_singleton] at hf
  subst hf
  refine ⟨rows_one h0 rfl, ⟨Nat.le_refl _, Nat.zero_le _, fun _ => ⟨rfl, rfl⟩, .inl rfl⟩, fun x hx => ?_, by simp, z, z⟩
  simp only [List.mem_singleton] at hx
  subst hx
  exact ⟨q, z, z, z, z⟩
theorem least_any (w : World) : Calls Tryz.prog 26 #[] w fun e w' => ∃ b, e = .returned (leastM b).val ∧ (leastM b).lies w' ∧ Below w.heap.size w w' := by
  go_enter Tryz.func26, Tryz.ntmps26
  go_wp2
  have hb : Below w.heap.size w (((w.alloc (.cells #[.slice none 0 0, .int .i64 0, .slice none 0 0, .slice (some ⟨w.heap.size + 1 + 1, 0, none⟩) 1 1] 26)).alloc (.cells #[.int .i64 45, .int .i64 0, .int .i64 0, .int .i64 0, .int .i64 0] 85)).alloc (.cells #[.int .i64 0, .int .i64 0, .slice (some ⟨w.heap.size + 1, 0, none⟩) 1 1, .slice none 0 0] 56)) := boxed3 w _ _ _
  have h1 := two_first (w.alloc (.cells #[.slice none 0 0, .int .i64 0, .slice none 0 0, .slice (some ⟨w.heap.size + 1 + 1, 0, none⟩) 1 1] 26)) (.cells #[.int .i64 45, .int .i64 0, .int .i64 0, .int .i64 0, .int .i64 0] 85) (.cells #[.int .i64 0, .int .i64 0, .slice (some ⟨w.heap.size + 1, 0, none⟩) 1 1, .slice none 0 0] 56)
  have h2 := two_second (w.alloc (.cells #[.slice none 0 0, .int .i64 0, .slice none 0 0, .slice (some ⟨w.heap.size + 1 + 1, 0, none⟩) 1 1] 26)) (.cells #[.int .i64 45, .int .i64 0, .int .i64 0, .int .i64 0, .int .i64 0] 85) (.cells #[.int .i64 0, .int .i64 0, .slice (some ⟨w.heap.size + 1, 0, none⟩) 1 1, .slice none 0 0] 56)
  have h0 := (two_old (w.alloc (.cells #[.slice none 0 0, .int .i64 0, .slice none 0 0, .slice (some ⟨w.heap.size + 1 + 1, 0, none⟩) 1 1] 26)) (.cells #[.int .i64 45, .int .i64 0, .int .i64 0, .int .i64 0, .int .i64 0] 85) (.cells #[.int .i64 0, .int .i64 0, .slice (some ⟨w.heap.size + 1, 0, none⟩) 1 1, .slice none 0 0] 56) w.heap.size (by rw [World.size_alloc]; omega)).trans (heap_alloc_new _ _)
  rw [World.size_alloc] at h1 h2
  refine bodyPost_ret (v := (leastM (w.heap.size + 1)).val) ?_ rfl ⟨w.heap.size + 1, rfl, leastM_lies h1 h2, hb⟩
  simp [results, Tryz.results26, go_sem, whole_cell h0 0 _ rfl, whole_cell h0 1 _ rfl, whole_cell h0 2 _ rfl, whole_cell h0 3 _ rfl]
end Go.Proofs.YtonkcnaijcpfdaaGreatDoor.pg
/- The contract of the document's own look at two functions: are they the same? -/
namespace Go.Proofs.YtonkcnaijcpfdaaGreatDoor.pg
open Go.ChangeShapes Go.WideShapes Go.ChangeAt Go.RowKit
set_option linter.unusedVariables false
set_option linter.unusedSimpArgs false
set_option maxRecDepth 100000
theorem sel_mem {l : List MSel} {k : Nat} {x : MSel} (h : l[k]? = some x) : x ∈ l := List.mem_of_getElem? h
theorem fn_eq {f g : MFn} (h1 : f.params = g.params) (h2 : f.regs = g.regs) (h3 : f.code = g.code) (h4 : f.sels.map MSel.sel = g.sels.map MSel.sel) : f.fn = g.fn := by unfold MFn.fn; rw [h1, h2, h3, h4]
theorem not_same {r : Bool} {p : Prop} (hr : Hid (r = true ↔ p)) (hn : ¬ p) : Hid (r = false) := by
  show r = false
  cases r with
  | false => rfl
  | true => exact absurd (hr.out.mp rfl) hn
theorem is_same {r : Bool} {p : Prop} (hr : Hid (r = true ↔ p)) (hp : p) : Hid (r = true) := hr.out.mpr hp
set_option maxHeartbeats 8000000 in
theorem rsameFunc_any (f g : MFn) (w : World) (hf : f.lies w) (hg : g.lies w) (r : Bool) (hr : Hid (r = true ↔ f.fn = g.fn)) :
    Calls Tryz.prog 25 #[f.val, g.val] w fun e w' => e = .returned (.bool r) ∧ Below w.heap.size w w' := by
  by_cases h1 : f.params = g.params
  · by_cases h2 : f.regs = g.regs
    · by_cases h3 : f.code.length = g.code.length
      · by_cases h4 : f.sels.length = g.sels.length
        · have hb := boxed2 w (objF f) (objF g)
          have hb2 := boxed (w.alloc (objF f)) (objF g)
          have bF := (boxF_new w f).later hb2
          have bG := boxF_new (w.alloc (objF f)) g
          simp only [World.size_alloc] at bG
          have hfL := hf.later hb
          have hgL := hg.later hb
          have hln := rows_len hf.1
          have hlns := rows_len hf.2.1
          have hz : w.heap.size + 1 < ((w.alloc (objF f)).alloc (objF g)).heap.size := by simp only [World.size_alloc]; omega
          clear hb2 hf hg
          obtain ⟨pa, ra, ca, cc, code, sa, sc, sels⟩ := f
          obtain ⟨pb, rb, cb, cd, code2, sb, sd, sels2⟩ := g
          simp only at h1 h2 h3 h4 hln hlns
          subst h1
          subst h2
          simp only [objF] at bF bG hfL hgL hz hb
          rw [h3] at hb hz hfL hgL bF bG hln
          rw [h4] at hb hz hfL hgL bF bG hlns
          show Calls Tryz.prog 25 #[.agg #[.int .i64 pa, .int .i64 ra, .slice ca code.length cc, .slice sa sels.length sc], .agg #[.int .i64 pa, .int .i64 ra, .slice cb code2.length cd, .slice sb sels2.length sd]] w _
          rw [h3, h4]
          have H3 : Hid (code.length = code2.length) := h3
          have H4 : Hid (sels.length = sels2.length) := h4
          clear h3 h4
          go_enter Tryz.func25, Tryz.ntmps25
          go_wp2
          generalize (w.alloc (.cells #[.int .i64 pa, .int .i64 ra, .slice ca code2.length cc, .slice sa sels2.length sc] 56)).alloc (.cells #[.int .i64 pa, .int .i64 ra, .slice cb code2.length cd, .slice sb sels2.length sd] 56) = W at *
          have C2 : Hid (W.cell? ⟨w.heap.size, 2, none⟩ = some (.slice ca code2.length cc)) := by have q := bF.2.2.1; simp only at q; rw [H3.out] at q; exact q
          have C3 : Hid (W.cell? ⟨w.heap.size, 3, none⟩ = some (.slice sa sels2.length sc)) := by have q := bF.2.2.2; simp only at q; rw [H4.out] at q; exact q
          have D2 : Hid (W.cell? ⟨w.heap.size + 1, 2, none⟩ = some (.slice cb code2.length cd)) := bG.2.2.1
          have D3 : Hid (W.cell? ⟨w.heap.size + 1, 3, none⟩ = some (.slice sb sels2.length sd)) := bG.2.2.2
          have hfL : Hid (MFn.lies W ⟨pa, ra, ca, cc, code, sa, sc, sels⟩) := hfL
          have hgL : Hid (MFn.lies W ⟨pa, ra, cb, cd, code2, sb, sd, sels2⟩) := hgL
          clear bF bG
          go_loopw [43] (fun u wr => ∃ k : Nat, k ≤ code2.length ∧ u = .int .i64 k ∧ (∀ j x y, j < k → code[j]? = some x → code2[j]? = some y → x = y) ∧ Below W.heap.size W wr) (fun u _ => code2.length - (intOf u).toNat)
          case atStart => exact ⟨0, Nat.zero_le _, rfl, fun j x y hj => by omega, Below.refl _ _⟩
          case round =>
            obtain ⟨k, hk, rfl, hall, hbr⟩ := hrel
            have a2 := cell_later hbr C2.out
            have b2 := cell_later hbr D2.out
            have a3 := cell_later hbr C3.out
            have b3 := cell_later hbr D3.out
            have hbw : Below w.heap.size w wr := bthen hb hbr
            by_cases hlt : k < code2.length
            · obtain ⟨x, hx, hxm⟩ := get_lt code k (by have := H3.out; omega)
              obtain ⟨y, hy, hym⟩ := get_lt code2 k hlt
              obtain ⟨bx, ox, hix, _, c0, c1, c2, c3, c4⟩ := ins_ix (hfL.out.later hbr).1 k x hx
              obtain ⟨bz, oy, hiy, _, e0, e1, e2, e3, e4⟩ := ins_ix (hgL.out.later hbr).1 k y hy
              rw [H3.out] at hix
              have hklI : (k : Int) < (code2.length : Int) := by omega
              have hne := run_neI x y
              cases hq : eqI x y with
              | true =>
                rw [hq] at hne
                have hxy : Hid (x = y) := (eqI_iff x y).mp hq
                clear hq a3 b3
                go_wp2_with fail
                go_quiet (fail)
                go_wp2
                go_roundw
                case rel => exact ⟨k + 1, by omega, by go_num, (fun j x' y' hj hx' hy' => by
                  by_cases hjk : j = k
                  · subst hjk; rw [hx] at hx'; rw [hy] at hy'; cases hx'; cases hy'; exact hxy.out
                  · exact hall j x' y' (by omega) hx' hy'), below_drewN hbr _⟩
                case measure => simp [intOf]; omega
              | false =>
                rw [hq] at hne
                have hv := not_same hr (fun q => by
                  have q2 : code = code2 := congrArg Fn.code q
                  subst q2
                  rw [hx] at hy
                  cases hy
                  have := (eqI_iff x x).mpr rfl
                  rw [hq] at this
                  exact absurd this (by decide))
                clear hq a3 b3
                go_wp2_with fail
                go_quiet (fail)
                go_wp2
                go_ret
                exact ⟨ret_b hv.out.symm, below_drewN hbw _⟩
            · have hcode : Hid (code = code2) := list_eq H3.out (fun i x y hx hy => hall i x y (by have := (List.getElem?_eq_some_iff.mp hy).1; omega) hx hy)
              clear hall a2 b2
              go_wp2
              generalize wr = W2 at *
              go_loopw [61] (fun u wr => ∃ k : Nat, k ≤ sels2.length ∧ u = .int .i64 k ∧ (∀ j x y, j < k → sels[j]? = some x → sels2[j]? = some y → x.sel = y.sel) ∧ Below W.heap.size W wr) (fun u _ => sels2.length - (intOf u).toNat)
              case atStart => exact ⟨0, Nat.zero_le _, rfl, fun j x y hj => by omega, hbr⟩
              case round =>
                clear a3 b3 hbw hbr
                obtain ⟨k, hk, rfl, hall, hbr⟩ := hrel
                have a3 := cell_later hbr C3.out
                have b3 := cell_later hbr D3.out
                have hbw : Below w.heap.size w wr := bthen hb hbr
                have z := hbr.size
                have z0 : w.heap.size < wr.heap.size := by omega
                have z1 : w.heap.size + 1 < wr.heap.size := by omega
                have z2 : w.heap.size + 1 < wr.heap.size + 1 := by omega
                by_cases hlt : k < sels2.length
                · obtain ⟨x, hx, hxm⟩ := get_lt sels k (by have := H4.out; omega)
                  obtain ⟨y, hy, hym⟩ := get_lt sels2 k hlt
                  have hfr := hfL.out.later hbr
                  have hgr := hgL.out.later hbr
                  obtain ⟨bx, ox, hix, hbx, c0, c1⟩ := sel_ix hfr.2.1 k x hx
                  obtain ⟨bz, oy, hiy, hbz, e0, e1⟩ := sel_ix hgr.2.1 k y hy
                  have hxl := hfr.2.2.2.1 x hxm
                  have hyl := hgr.2.2.2.1 y hym
                  have hz1 : bz < wr.heap.size + 1 := by omega
                  rw [H4.out] at hix
                  obtain ⟨xa, xcap, xcases, xels⟩ := x
                  obtain ⟨ya, ycap, ycases, yels⟩ := y
                  simp only at hix hiy c0 c1 e0 e1
                  clear hfr hgr
                  have diff : ¬ (Sel.mk xcases xels = Sel.mk ycases yels) → Hid (r = false) := fun hd => not_same hr (fun q => hd (by
                    have q2 : sels.map MSel.sel = sels2.map MSel.sel := congrArg Fn.sels q
                    have q3 := congrArg (fun l => l[k]?) q2
                    simp only [List.getElem?_map, hx, hy, Option.map_some, Option.some.injEq] at q3
                    exact q3))
                  by_cases h5 : xels = yels
                  · by_cases h6 : xcases.length = ycases.length
                    · subst h5
                      have hlnx := rows_len hyl.1
                      simp only at hlnx
                      rw [h6] at c0
                      have H6 : Hid (xcases.length = ycases.length) := h6
                      clear h6
                      have hb3 := bthen hbr (boxed2 wr (.cells #[.slice xa ycases.length xcap, .int .i64 xels] 59) (.cells #[.slice ya ycases.length ycap, .int .i64 xels] 59))
                      have xl := hxl.later (boxed2 wr (.cells #[.slice xa ycases.length xcap, .int .i64 xels] 59) (.cells #[.slice ya ycases.length ycap, .int .i64 xels] 59))
                      have yl := hyl.later (boxed2 wr (.cells #[.slice xa ycases.length xcap, .int .i64 xels] 59) (.cells #[.slice ya ycases.length ycap, .int .i64 xels] 59))
                      have bX : Hid ((((wr.alloc (.cells #[.slice xa ycases.length xcap, .int .i64 xels] 59)).alloc (.cells #[.slice ya ycases.length ycap, .int .i64 xels] 59)).cell? ⟨wr.heap.size, 0, none⟩ = some (.slice xa ycases.length xcap))) := by
                        refine cell_later (boxed _ _) ?_
                        exact World.cell?_alloc_at _ _ _ _ rfl
                      have bY : Hid ((((wr.alloc (.cells #[.slice xa ycases.length xcap, .int .i64 xels] 59)).alloc (.cells #[.slice ya ycases.length ycap, .int .i64 xels] 59)).cell? ⟨wr.heap.size + 1, 0, none⟩ = some (.slice ya ycases.length ycap))) := by
                        exact World.cell?_alloc_at _ _ _ _ (World.size_alloc _ _).symm
                      clear hxl hyl
                      go_wp2
                      generalize (wr.alloc (.cells #[.slice xa ycases.length xcap, .int .i64 xels] 59)).alloc (.cells #[.slice ya ycases.length ycap, .int .i64 xels] 59) = W3 at *
                      clear hix hiy c0 c1 e0 e1 hbx hbz a3 b3 z0 z1 z2 hz1 z hbw hbr
                      generalize wr.heap.size = BX at *
                      go_loopw [91] (fun u wr => ∃ q : Nat, q ≤ ycases.length ∧ u = .int .i64 q ∧ (∀ j x y, j < q → xcases[j]? = some x → ycases[j]? = some y → x = y) ∧ Below W3.heap.size W3 wr) (fun u _ => ycases.length - (intOf u).toNat)
                      case atStart => exact ⟨0, Nat.zero_le _, rfl, fun j x y hj => by omega, Below.refl _ _⟩
                      case round =>
                        obtain ⟨q, hq, rfl, hallc, hbq⟩ := hrel
                        have x0 := cell_later hbq bX.out
                        have y0 := cell_later hbq bY.out
                        have hb4 := bthen hb3 hbq
                        by_cases hlq : q < ycases.length
                        · obtain ⟨x, hxx, _⟩ := get_lt xcases q (by have := H6.out; omega)
                          obtain ⟨y, hyy, _⟩ := get_lt ycases q hlq
                          obtain ⟨bx, ox, hix, _, c0, c1, c2, c3⟩ := cas_ix (xl.later hbq).1 q x hxx
                          obtain ⟨bz, oy, hiy, _, e0, e1, e2, e3⟩ := cas_ix (yl.later hbq).1 q y hyy
                          rw [H6.out] at hix
                          have hqlI : (q : Int) < (ycases.length : Int) := by omega
                          have hne := run_neC x y
                          cases hqe : eqC x y with
                          | true =>
                            rw [hqe] at hne
                            have hxy : Hid (x = y) := (eqC_iff x y).mp hqe
                            clear hqe
                            go_wp2_with fail
                            go_quiet (fail)
                            go_wp2
                            go_roundw
                            case rel => exact ⟨q + 1, by omega, by go_num, (fun j x' y' hj hx' hy' => by
                              by_cases hjk : j = q
                              · subst hjk; rw [hxx] at hx'; rw [hyy] at hy'; cases hx'; cases hy'; exact hxy.out
                              · exact hallc j x' y' (by omega) hx' hy'), below_drewN hbq _⟩
                            case measure => simp [intOf]; omega
                          | false =>
                            rw [hqe] at hne
                            have hv := diff (fun t => by
                              have t2 : xcases = ycases := congrArg Sel.cases t
                              subst t2
                              rw [hxx] at hyy
                              cases hyy
                              have := (eqC_iff x x).mpr rfl
                              rw [hqe] at this
                              exact absurd this (by decide))
                            clear hqe
                            go_wp2_with fail
                            go_quiet (fail)
                            go_wp2
                            go_ret
                            exact ⟨ret_b hv.out.symm, below_drewN (bthen hb hb4) _⟩
                        · have hcs : xcases = ycases := list_eq H6.out (fun i x y hx hy => hallc i x y (by have := (List.getElem?_eq_some_iff.mp hy).1; omega) hx hy)
                          have hcs' : Hid (Sel.mk xcases xels = Sel.mk ycases xels) := by show _ = _; rw [hcs]
                          clear hcs hallc x0 y0
                          go_wp2
                          go_roundw
                          case rel => exact ⟨k + 1, by omega, by go_num, (fun j x' y' hj hx' hy' => by
                            by_cases hjk : j = k
                            · subst hjk; rw [hx] at hx'; rw [hy] at hy'; cases hx'; cases hy'; exact hcs'.out
                            · exact hall j x' y' (by omega) hx' hy'), hb4⟩
                          case measure => simp [intOf]; omega
                    · have hv := diff (fun t => h6 (congrArg (fun s => s.cases.length) t))
                      subst h5
                      clear hxl hyl diff
                      have h6I : ¬ (xcases.length : Int) = ycases.length := by omega
                      clear h6
                      go_wp2
                      go_ret
                      exact ⟨ret_b hv.out.symm, bthen hbw (boxed2 _ _ _)⟩
                  · have hv := diff (fun t => h5 (congrArg Sel.els t))
                    clear hxl hyl diff
                    go_wp2
                    go_ret
                    exact ⟨ret_b hv.out.symm, bthen hbw (boxed2 _ _ _)⟩
                · have hsl : sels.map MSel.sel = sels2.map MSel.sel := list_eq (by simp only [List.length_map]; exact H4.out) (fun i x y hx hy => by
                    simp only [List.getElem?_map, Option.map_eq_some_iff] at hx hy
                    obtain ⟨x', hx', rfl⟩ := hx
                    obtain ⟨y', hy', rfl⟩ := hy
                    exact hall i x' y' (by have := (List.getElem?_eq_some_iff.mp hy').1; omega) hx' hy')
                  have hv := is_same hr (fn_eq rfl rfl hcode.out hsl)
                  clear hsl hall a3 b3
                  go_wp2
                  go_ret
                  exact ⟨ret_b hv.out.symm, hbw⟩
        · have hv := not_same hr (fun q => h4 (by have := congrArg (fun f => f.sels.length) q; simpa [MFn.fn] using this))
          have hI : ¬ (f.sels.length : Int) = g.sels.length := by omega
          clear h4 hf hg
          obtain ⟨pa, ra, ca, cc, code, sa, sc, sels⟩ := f
          obtain ⟨pb, rb, cb, cd, code2, sb, sd, sels2⟩ := g
          simp only at h1 h2 h3 hI
          subst h1
          subst h2
          have hIb : ((sels.length : Int) != (sels2.length : Int)) = true := by simpa using hI
          have h3I : (code.length : Int) = code2.length := by omega
          go_enter Tryz.func25, Tryz.ntmps25
          go_wp2
          go_ret
          exact ⟨ret_b hv.out.symm, boxed2 _ _ _⟩
      · have hv := not_same hr (fun q => h3 (congrArg (fun f => f.code.length) q))
        have hI : ¬ (f.code.length : Int) = g.code.length := by omega
        clear h3 hf hg
        obtain ⟨pa, ra, ca, cc, code, sa, sc, sels⟩ := f
        obtain ⟨pb, rb, cb, cd, code2, sb, sd, sels2⟩ := g
        simp only at h1 h2 hI
        subst h1
        subst h2
        go_enter Tryz.func25, Tryz.ntmps25
        go_wp2
        go_ret
        exact ⟨ret_b hv.out.symm, boxed2 _ _ _⟩
    · have hv := not_same hr (fun q => h2 (congrArg Fn.regs q))
      clear hf hg
      obtain ⟨pa, ra, ca, cc, code, sa, sc, sels⟩ := f
      obtain ⟨pb, rb, cb, cd, code2, sb, sd, sels2⟩ := g
      simp only at h1 h2
      subst h1
      go_enter Tryz.func25, Tryz.ntmps25
      go_wp2
      go_ret
      exact ⟨ret_b hv.out.symm, boxed2 _ _ _⟩
  · have hv := not_same hr (fun q => h1 (congrArg Fn.params q))
    go_enter Tryz.func25, Tryz.ntmps25
    go_wp2
    go_ret
    exact ⟨ret_b hv.out.symm, boxed2 _ _ _⟩
end Go.Proofs.YtonkcnaijcpfdaaGreatDoor.pg
/- The contract of the document's own Same. -/
namespace Go.Proofs.YtonkcnaijcpfdaaGreatDoor.pg
open Go.ChangeShapes Go.WideShapes Go.ChangeAt Go.RowKit
set_option linter.unusedVariables false
set_option linter.unusedSimpArgs false
set_option maxRecDepth 100000
attribute [local go_sem ↓] Go.wp_at_zero Go.wp_at_succ
theorem keep10 {A0 A1 A2 A3 A4 A5 A6 A7 A8 A9 Q : Prop} (h : A0 ∧ A1 ∧ A2 ∧ A3 ∧ A4 ∧ A5 ∧ A6 ∧ A7 ∧ A8 ∧ A9 ∧ Q) : Q := h.2.2.2.2.2.2.2.2.2.2
theorem pr_eq {A B : MPr} (h1 : A.vars = B.vars) (h2 : A.locks = B.locks) (h3 : A.chans = B.chans) (h4 : A.fns.map MFn.fn = B.fns.map MFn.fn) : A.pr = B.pr := by unfold MPr.pr; rw [h1, h2, h3, h4]
set_option maxHeartbeats 8000000 in
theorem rsame_any (A B : MPr) (w : World) (hA : A.lies w) (hB : B.lies w) (r : Bool) (hr : Hid (r = true ↔ A.pr = B.pr)) :
    Calls Tryz.prog 14 #[A.val, B.val] w fun e w' => e = .returned (.bool r) ∧ Below w.heap.size w w' := by
  by_cases h1 : A.vars.length = B.vars.length
  · by_cases h2 : A.locks = B.locks
    · by_cases h3 : A.chans.length = B.chans.length
      · by_cases h4 : A.fns.length = B.fns.length
        · have hb := boxed2 w (objP A) (objP B)
          have hb2 := boxed (w.alloc (objP A)) (objP B)
          have bA := (boxP_new w A).later hb2
          have bB := boxP_new (w.alloc (objP A)) B
          simp only [World.size_alloc] at bB
          have hAL := hA.later hb
          have hBL := hB.later hb
          have hl1 := rows_len hA.1
          have hl3 := rows_len hA.2.1
          have hl4 := rows_len hA.2.2.1
          have hz : w.heap.size + 1 < ((w.alloc (objP A)).alloc (objP B)).heap.size := by simp only [World.size_alloc]; omega
          clear hb2 hA hB
          obtain ⟨va, vc, vars, locks, ha, hc, chans, fa, fc, fns⟩ := A
          obtain ⟨vb, vd, vars2, locks2, hb', hd, chans2, fb, fd, fns2⟩ := B
          simp only at h1 h2 h3 h4 hl1 hl3 hl4
          subst h2
          simp only [objP] at bA bB hAL hBL hz hb
          rw [h1] at hb hz hAL hBL bA bB hl1
          rw [h3] at hb hz hAL hBL bA bB hl3
          rw [h4] at hb hz hAL hBL bA bB hl4
          show Calls Tryz.prog 14 #[.agg #[.slice va vars.length vc, .int .i64 locks, .slice ha chans.length hc, .slice fa fns.length fc], .agg #[.slice vb vars2.length vd, .int .i64 locks, .slice hb' chans2.length hd, .slice fb fns2.length fd]] w _
          rw [h1, h3, h4]
          have H1 : Hid (vars.length = vars2.length) := h1
          have H3 : Hid (chans.length = chans2.length) := h3
          have H4 : Hid (fns.length = fns2.length) := h4
          clear h1 h3 h4
          go_enter Tryz.func14, Tryz.ntmps14
          go_wp2
          generalize (w.alloc (.cells #[.slice va vars2.length vc, .int .i64 locks, .slice ha chans2.length hc, .slice fa fns2.length fc] 26)).alloc (.cells #[.slice vb vars2.length vd, .int .i64 locks, .slice hb' chans2.length hd, .slice fb fns2.length fd] 26) = W at *
          have A0 : Hid (W.cell? ⟨w.heap.size, 0, none⟩ = some (.slice va vars2.length vc)) := by have q := bA.1; simp only at q; rw [H1.out] at q; exact q
          have A2 : Hid (W.cell? ⟨w.heap.size, 2, none⟩ = some (.slice ha chans2.length hc)) := by have q := bA.2.2.1; simp only at q; rw [H3.out] at q; exact q
          have A3 : Hid (W.cell? ⟨w.heap.size, 3, none⟩ = some (.slice fa fns2.length fc)) := by have q := bA.2.2.2; simp only at q; rw [H4.out] at q; exact q
          have B0 : Hid (W.cell? ⟨w.heap.size + 1, 0, none⟩ = some (.slice vb vars2.length vd)) := bB.1
          have B2 : Hid (W.cell? ⟨w.heap.size + 1, 2, none⟩ = some (.slice hb' chans2.length hd)) := bB.2.2.1
          have B3 : Hid (W.cell? ⟨w.heap.size + 1, 3, none⟩ = some (.slice fb fns2.length fd)) := bB.2.2.2
          have hAL : Hid (MPr.lies W ⟨va, vc, vars, locks, ha, hc, chans, fa, fc, fns⟩) := hAL
          have hBL : Hid (MPr.lies W ⟨vb, vd, vars2, locks, hb', hd, chans2, fb, fd, fns2⟩) := hBL
          clear bA bB
          go_loopw [43] (fun u wr => ∃ k : Nat, k ≤ vars2.length ∧ u = .int .i64 k ∧ (∀ j x y, j < k → vars[j]? = some x → vars2[j]? = some y → x = y) ∧ Below W.heap.size W wr) (fun u _ => vars2.length - (intOf u).toNat)
          case atStart => exact ⟨0, Nat.zero_le _, rfl, fun j x y hj => by omega, Below.refl _ _⟩
          case round =>
            obtain ⟨k, hk, rfl, hall, hbr⟩ := hrel
            have a0 := cell_later hbr A0.out
            have b0 := cell_later hbr B0.out
            have a2 := cell_later hbr A2.out
            have b2 := cell_later hbr B2.out
            have hbw : Below w.heap.size w wr := bthen hb hbr
            by_cases hlt : k < vars2.length
            · obtain ⟨x, hx, hxm⟩ := get_lt vars k (by have := H1.out; omega)
              obtain ⟨y, hy, hym⟩ := get_lt vars2 k hlt
              obtain ⟨bx, ox, hix, _, c0, c1⟩ := vr_ix (hAL.out.later hbr).1 k x hx
              obtain ⟨bz, oy, hiy, _, e0, e1⟩ := vr_ix (hBL.out.later hbr).1 k y hy
              rw [H1.out] at hix
              have hklI : (k : Int) < (vars2.length : Int) := by omega
              have hne := run_neV x y
              cases hq : eqV x y with
              | true =>
                rw [hq] at hne
                have hxy : Hid (x = y) := (eqV_iff x y).mp hq
                clear hq a2 b2
                go_wp2_with fail
                go_quiet (fail)
                go_wp2
                go_roundw
                case rel => exact ⟨k + 1, by omega, by go_num, (fun j x' y' hj hx' hy' => by
                  by_cases hjk : j = k
                  · subst hjk; rw [hx] at hx'; rw [hy] at hy'; cases hx'; cases hy'; exact hxy.out
                  · exact hall j x' y' (by omega) hx' hy'), below_drewN hbr _⟩
                case measure => simp [intOf]; omega
              | false =>
                rw [hq] at hne
                have hv := not_same hr (fun q => by
                  have q2 : vars = vars2 := congrArg Pr.vars q
                  subst q2
                  rw [hx] at hy
                  cases hy
                  have := (eqV_iff x x).mpr rfl
                  rw [hq] at this
                  exact absurd this (by decide))
                clear hq a2 b2
                go_wp2_with fail
                go_quiet (fail)
                go_wp2
                go_ret
                exact ⟨ret_b hv.out.symm, below_drewN hbw _⟩
            · have hvars : Hid (vars = vars2) := list_eq H1.out (fun i x y hx hy => hall i x y (by have := (List.getElem?_eq_some_iff.mp hy).1; omega) hx hy)
              clear hall a0 b0
              go_wp2
              generalize wr = W2 at *
              go_loopw [61] (fun u wr => ∃ k : Nat, k ≤ chans2.length ∧ u = .int .i64 k ∧ (∀ j x y, j < k → chans[j]? = some x → chans2[j]? = some y → x = y) ∧ Below W.heap.size W wr) (fun u _ => chans2.length - (intOf u).toNat)
              case atStart => exact ⟨0, Nat.zero_le _, rfl, fun j x y hj => by omega, hbr⟩
              case round =>
                clear a2 b2 hbw hbr
                obtain ⟨k, hk, rfl, hall, hbr⟩ := hrel
                have a2 := cell_later hbr A2.out
                have b2 := cell_later hbr B2.out
                have a3 := cell_later hbr A3.out
                have b3 := cell_later hbr B3.out
                have hbw : Below w.heap.size w wr := bthen hb hbr
                by_cases hlt : k < chans2.length
                · obtain ⟨x, hx, hxm⟩ := get_lt chans k (by have := H3.out; omega)
                  obtain ⟨y, hy, hym⟩ := get_lt chans2 k hlt
                  obtain ⟨bx, ox, hix, _, c0⟩ := ch_ix (hAL.out.later hbr).2.1 k x hx
                  obtain ⟨bz, oy, hiy, _, e0⟩ := ch_ix (hBL.out.later hbr).2.1 k y hy
                  rw [H3.out] at hix
                  have hklI : (k : Int) < (chans2.length : Int) := by omega
                  clear a3 b3
                  by_cases hxy : x = y
                  · have hxyH : Hid (x = y) := hxy
                    have hxb : (x != y) = false := by simp [hxy]
                    clear hxy
                    go_wp2_with fail
                    go_quiet (fail)
                    go_wp2
                    go_roundw
                    case rel => exact ⟨k + 1, by omega, by go_num, (fun j x' y' hj hx' hy' => by
                      by_cases hjk : j = k
                      · subst hjk; rw [hx] at hx'; rw [hy] at hy'; cases hx'; cases hy'; exact hxyH.out
                      · exact hall j x' y' (by omega) hx' hy'), below_drewN hbr _⟩
                    case measure => simp [intOf]; omega
                  · have hv := not_same hr (fun q => by
                      have q2 : chans = chans2 := congrArg Pr.chans q
                      subst q2
                      rw [hx] at hy
                      cases hy
                      exact hxy rfl)
                    have hxb : (x != y) = true := by simp [hxy]
                    go_wp2_with fail
                    go_quiet (fail)
                    go_wp2
                    go_ret
                    exact ⟨ret_b hv.out.symm, below_drewN hbw _⟩
                · have hchans : Hid (chans = chans2) := list_eq H3.out (fun i x y hx hy => hall i x y (by have := (List.getElem?_eq_some_iff.mp hy).1; omega) hx hy)
                  clear hall a2 b2
                  go_wp2
                  generalize wr = W3 at *
                  go_loopw [79] (fun u wr => ∃ k : Nat, k ≤ fns2.length ∧ u = .int .i64 k ∧ (∀ j x y, j < k → fns[j]? = some x → fns2[j]? = some y → x.fn = y.fn) ∧ Below W.heap.size W wr) (fun u _ => fns2.length - (intOf u).toNat)
                  case atStart => exact ⟨0, Nat.zero_le _, rfl, fun j x y hj => by omega, hbr⟩
                  case round =>
                    clear a3 b3 hbw hbr
                    obtain ⟨k, hk, rfl, hall, hbr⟩ := hrel
                    have hbw : Below w.heap.size w wr := bthen hb hbr
                    by_cases hlt : k < fns2.length
                    · obtain ⟨x, hx, hxm⟩ := get_lt fns k (by have := H4.out; omega)
                      obtain ⟨y, hy, hym⟩ := get_lt fns2 k hlt
                      have hAr := hAL.out.later hbr
                      have hBr := hBL.out.later hbr
                      obtain ⟨bx, ox, hix, hbx, c0, c1, c2, c3⟩ := fn_ix hAr.2.2.1 k x hx
                      obtain ⟨bz, oy, hiy, hbz, e0, e1, e2, e3⟩ := fn_ix hBr.2.2.1 k y hy
                      rw [H4.out] at hix
                      have hklI : (k : Int) < (fns2.length : Int) := by omega
                      have hxl : Hid (x.lies wr) := hAr.2.2.2.2.2.2 x hxm
                      have hyl : Hid (y.lies wr) := hBr.2.2.2.2.2.2 y hym
                      clear hAr hBr
                      obtain ⟨q, hq⟩ : ∃ q : Bool, Hid (q = true ↔ x.fn = y.fn) := by
                        by_cases hh : x.fn = y.fn
                        · exact ⟨true, by simp [Hid, hh]⟩
                        · exact ⟨false, by simp [Hid, hh]⟩
                      have hcall : ∀ wx, Below wr.heap.size wr wx → Calls Tryz.prog 25 #[x.val, y.val] wx _ := fun wx hx' => rsameFunc_any x y wx (hxl.out.later hx') (hyl.out.later hx') q hq
                      have a3 := cell_later hbr A3.out
                      have b3 := cell_later hbr B3.out
                      have K : ∀ w', Below wr.heap.size wr w' → (w'.cell? ⟨w.heap.size, 3, none⟩ = some (.slice fa fns2.length fc) ∧ w'.cell? ⟨w.heap.size + 1, 3, none⟩ = some (.slice fb fns2.length fd) ∧ w'.cell? ⟨bx, ox, none⟩ = some (.int .i64 x.params) ∧ w'.cell? ⟨bx, ox + 1, none⟩ = some (.int .i64 x.regs) ∧ w'.cell? ⟨bx, ox + 2, none⟩ = some (.slice x.ca x.code.length x.ccap) ∧ w'.cell? ⟨bx, ox + 3, none⟩ = some (.slice x.sa x.sels.length x.scap) ∧ w'.cell? ⟨bz, oy, none⟩ = some (.int .i64 y.params) ∧ w'.cell? ⟨bz, oy + 1, none⟩ = some (.int .i64 y.regs) ∧ w'.cell? ⟨bz, oy + 2, none⟩ = some (.slice y.ca y.code.length y.ccap) ∧ w'.cell? ⟨bz, oy + 3, none⟩ = some (.slice y.sa y.sels.length y.scap) ∧ Below wr.heap.size wr w') := fun w' h' => ⟨cell_later h' a3, cell_later h' b3, cell_later h' c0, cell_later h' c1, cell_later h' c2, cell_later h' c3, cell_later h' e0, cell_later h' e1, cell_later h' e2, cell_later h' e3, h'⟩
                      have KH : Hid (∀ w', Below wr.heap.size wr w' → _) := K
                      clear K
                      go_wp2_with fail
                      go_region_held3 (fun w' => w'.cell? ⟨w.heap.size, 3, none⟩ = some (.slice fa fns2.length fc) ∧ w'.cell? ⟨w.heap.size + 1, 3, none⟩ = some (.slice fb fns2.length fd) ∧ w'.cell? ⟨bx, ox, none⟩ = some (.int .i64 x.params) ∧ w'.cell? ⟨bx, ox + 1, none⟩ = some (.int .i64 x.regs) ∧ w'.cell? ⟨bx, ox + 2, none⟩ = some (.slice x.ca x.code.length x.ccap) ∧ w'.cell? ⟨bx, ox + 3, none⟩ = some (.slice x.sa x.sels.length x.scap) ∧ w'.cell? ⟨bz, oy, none⟩ = some (.int .i64 y.params) ∧ w'.cell? ⟨bz, oy + 1, none⟩ = some (.int .i64 y.regs) ∧ w'.cell? ⟨bz, oy + 2, none⟩ = some (.slice y.ca y.code.length y.ccap) ∧ w'.cell? ⟨bz, oy + 3, none⟩ = some (.slice y.sa y.sels.length y.scap) ∧ Below wr.heap.size wr w') ((refine KH.out _ ?_; repeat (first | exact keep10 (by assumption) | assumption | exact Below.refl _ _ | refine Below.drew ?_)))
                        (first | (go_at_call 25; refine (hcall _ (by repeat (first | exact keep10 (by assumption) | exact Below.refl _ _ | refine Below.drew ?_))).mono ?_; rintro e w' ⟨rfl, hb2⟩; have hBW : Below wr.heap.size wr w' := bthen (by repeat (first | exact keep10 (by assumption) | exact Below.refl _ _ | refine Below.drew ?_)) hb2))
                      cases q with
                      | true =>
                        have hxy := hq.out.mp rfl
                        clear hcall KH
                        go_wp2
                        go_roundw
                        case rel => exact ⟨k + 1, by omega, by go_num, (fun j x' y' hj hx' hy' => by
                          by_cases hjk : j = k
                          · subst hjk; rw [hx] at hx'; rw [hy] at hy'; cases hx'; cases hy'; exact hxy
                          · exact hall j x' y' (by omega) hx' hy'), bthen hbr hBW⟩
                        case measure => simp [intOf]; omega
                      | false =>
                        have hv := not_same hr (fun t => by
                          have t2 : fns.map MFn.fn = fns2.map MFn.fn := congrArg Pr.fns t
                          have t3 := congrArg (fun l => l[k]?) t2
                          simp only [List.getElem?_map, hx, hy, Option.map_some, Option.some.injEq] at t3
                          exact absurd (hq.out.mpr t3) (by decide))
                        clear hcall KH
                        go_wp2
                        go_ret
                        exact ⟨ret_b hv.out.symm, bthen hbw hBW⟩
                    · have hsl : fns.map MFn.fn = fns2.map MFn.fn := list_eq (by simp only [List.length_map]; exact H4.out) (fun i x y hx hy => by
                        simp only [List.getElem?_map, Option.map_eq_some_iff] at hx hy
                        obtain ⟨x', hx', rfl⟩ := hx
                        obtain ⟨y', hy', rfl⟩ := hy
                        exact hall i x' y' (by have := (List.getElem?_eq_some_iff.mp hy').1; omega) hx' hy')
                      have hv := is_same hr (pr_eq hvars.out rfl hchans.out hsl)
                      clear hsl hall
                      go_wp2
                      go_ret
                      exact ⟨ret_b hv.out.symm, hbw⟩
        · have hv := not_same hr (fun q => h4 (by have := congrArg (fun f => f.fns.length) q; simpa [MPr.pr] using this))
          have hI : ¬ (A.fns.length : Int) = B.fns.length := by omega
          clear h4 hA hB
          obtain ⟨va, vc, vars, locks, ha, hc, chans, fa, fc, fns⟩ := A
          obtain ⟨vb, vd, vars2, locks2, hb', hd, chans2, fb, fd, fns2⟩ := B
          simp only at h1 h2 h3 hI
          subst h2
          have hIb : ((fns.length : Int) != (fns2.length : Int)) = true := by simpa using hI
          have h1I : (vars.length : Int) = vars2.length := by omega
          have h3I : (chans.length : Int) = chans2.length := by omega
          go_enter Tryz.func14, Tryz.ntmps14
          go_wp2
          go_ret
          exact ⟨ret_b hv.out.symm, boxed2 _ _ _⟩
      · have hv := not_same hr (fun q => h3 (congrArg (fun f => f.chans.length) q))
        have hI : ¬ (A.chans.length : Int) = B.chans.length := by omega
        clear h3 hA hB
        obtain ⟨va, vc, vars, locks, ha, hc, chans, fa, fc, fns⟩ := A
        obtain ⟨vb, vd, vars2, locks2, hb', hd, chans2, fb, fd, fns2⟩ := B
        simp only at h1 h2 hI
        subst h2
        have hIb : ((chans.length : Int) != (chans2.length : Int)) = true := by simpa using hI
        have h1I : (vars.length : Int) = vars2.length := by omega
        go_enter Tryz.func14, Tryz.ntmps14
        go_wp2
        go_ret
        exact ⟨ret_b hv.out.symm, boxed2 _ _ _⟩
    · have hv := not_same hr (fun q => h2 (congrArg Pr.locks q))
      have h2b : (A.locks != B.locks) = true := by simpa using h2
      have h1I : (A.vars.length : Int) = B.vars.length := by omega
      clear hA hB
      go_enter Tryz.func14, Tryz.ntmps14
      go_wp2
      go_ret
      exact ⟨ret_b hv.out.symm, boxed2 _ _ _⟩
  · have hv := not_same hr (fun q => h1 (congrArg (fun f => f.vars.length) q))
    have hI : ¬ (A.vars.length : Int) = B.vars.length := by omega
    clear h1 hA hB
    go_enter Tryz.func14, Tryz.ntmps14
    go_wp2
    go_ret
    exact ⟨ret_b hv.out.symm, boxed2 _ _ _⟩
end Go.Proofs.YtonkcnaijcpfdaaGreatDoor.pg
