/- ProgTouches, walked: of a right program. -/
import Derived.Test.YtaghfahhfockkaaDoorTouch8
import Derived.Test.YtaghfahhfockkaaDoorTouch9
namespace Go.Proofs.YtaghfahhfockkaaDoor.pg
open Go.ChangeShapes Go.WideShapes Go.ChangeAt Go.RowKit
set_option linter.unusedVariables false
set_option linter.unusedSimpArgs false
set_option maxRecDepth 100000
theorem rows_pair {w : World} {b : Nat} {x y : Value} {t : TypeId} (h : w.heap[b]? = some (.cells #[x, y] t (0, 0))) : Rows w 1 (some ⟨b, 0, none⟩) 2 [[x], [y]] := by
  refine ⟨by simp, by simp, by simp, .inr ⟨b, 0, rfl, (Array.getElem?_eq_some_iff.mp h).1, fun i r hi => ?_⟩⟩
  have hi2 : i = 0 ∨ i = 1 := by have := (List.getElem?_eq_some_iff.mp hi).1; simp at this; omega
  rcases hi2 with rfl | rfl
  · simp at hi
    subst hi
    refine ⟨rfl, fun j u hj => ?_⟩
    have hj0 : j = 0 := by have := (List.getElem?_eq_some_iff.mp hj).1; simp at this; omega
    subst hj0
    simp at hj
    subst hj
    exact whole_cell h 0 _ rfl
  · simp at hi
    subst hi
    refine ⟨rfl, fun j u hj => ?_⟩
    have hj0 : j = 0 := by have := (List.getElem?_eq_some_iff.mp hj).1; simp at this; omega
    subst hj0
    simp at hj
    subst hj
    exact whole_cell h 1 _ rfl
theorem isR_yes {op : Int} {k : Nat} (h : lt op k = 114 ∨ lt op k = 119) : regsN op (k + 1) = regsN op k + 1 := by simp only [regsN, isR]; rw [if_pos h]
theorem isR_no {op : Int} {k : Nat} (h : ¬ (lt op k = 114 ∨ lt op k = 119)) : regsN op (k + 1) = regsN op k := by simp only [regsN, isR]; rw [if_neg h]; rfl
set_option maxHeartbeats 8000000 in
theorem touches_right (M : MPr) (a1 : Int) (w : World) (hl : M.lies w) (hF : prog.Forms w) (hr : (chk insP M.pr).1 = 0) :
    Calls Tryd.prog 4 #[M.val, .int .i64 a1] w fun e w' => e = .returned (.bool true) ∧ Below w.heap.size w w' := by
  obtain ⟨U, hU1, hU⟩ := u64_of a1
  have hb := boxed w (objP M)
  have bP := boxP_new w M
  obtain ⟨f, pc, D, F, i, K⟩ := picked hr U hU
  have hrr := rright_any M _ (hl.later hb) true (decide_eq_true ((right_iff M.pr).mp hr))
  have hFm : F ∈ M.fns := List.mem_of_getElem? K.hF
  have him : i ∈ F.code := List.mem_of_getElem? K.hi
  have hFp : F.fn ∈ M.pr.fns := by simp only [MPr.pr, List.mem_map]; exact ⟨F, hFm, rfl⟩
  obtain ⟨hsel, hcode, _⟩ := chk_parts hr F.fn hFp
  have hins : insP M.pr F.fn i = 0 := hcode i him
  have hkn := ins_known hins
  have hsh := chk_shaped hr F.fn hFp
  have hA : Asked M f pc (touchTo M.pr F.fn i 4).1 (touchTo M.pr F.fn i 4).2 0 := .inr (.inr ⟨hr, rfl, f, pc, F, i, rfl, rfl, K.hF, K.hi, rfl, rfl⟩)
  have c1 : ∀ wx, Below w.heap.size w wx → Calls Tryd.prog 6 #[M.val, .int .i64 (f : Int), .int .i64 (pc : Int)] wx _ := fun wx hx => reads_any M f pc wx (hl.later hx) (hF.later hx) hA
  have c3 : ∀ wx, Below w.heap.size w wx → Calls Tryd.prog 8 #[M.val, .int .i64 (f : Int), .int .i64 (pc : Int)] wx _ := fun wx hx => sets_any M f pc wx (hl.later hx) (hF.later hx) hA
  obtain ⟨S, hS⟩ : ∃ S, Hid (prog.frm i.op = S) := ⟨_, rfl⟩
  have hop64 : I64 i.op := ((hl.2.2.2.2.2.2 F hFm).2.2.1 i him).1
  have c4 : ∀ wx, Below w.heap.size w wx → Calls Tryd.prog 13 #[.int .i64 i.op] wx _ := fun wx hx => prog.form_any i.op hop64.1 hop64.2 wx (hF.later hx) S hS.out
  have hin := touch_in hsel hins (par_nonneg M.pr (fun g hg => (chk_shaped hr g hg).2.1.1) i.b) 4 (by omega)
  have h8 : F.regs ≤ 8 := hsh.1.2
  have hfew : Hid (i.op ≠ 61 → i.op ≠ 62 → (upto (inl (touchTo M.pr F.fn i 4).1) 8).length + (upto (inl (touchTo M.pr F.fn i 4).2) 8).length ≤ regsN i.op 4 + 2) := fun q1 q2 => by
    have := touch_few M.pr F.fn i hkn q1 q2
    have := upto_inl_len (touchTo M.pr F.fn i 4).1 8
    have := upto_inl_len (touchTo M.pr F.fn i 4).2 8
    omega
  have hsome : Hid (regsN i.op 4 ≠ 0 → 0 < (upto (inl (touchTo M.pr F.fn i 4).1) 8).length + (upto (inl (touchTo M.pr F.fn i 4).2) 8).length) := touch_some hkn fun k h4 hL => by
    have h := opnd_r (ins_opnds hins k h4) hL
    have h88 : F.fn.regs ≤ 8 := h8
    exact ⟨h.1, by omega⟩
  have hL : ∀ (l : List Int), (∀ z ∈ l, inR z F.fn.regs) → ∀ z ∈ upto (inl l) 8, 0 ≤ z ∧ z < F.regs := fun l hl' z hz => by
    obtain ⟨n, rfl, _, hm⟩ := upto_mem hz
    exact hl' _ (of_decide_eq_true hm)
  have hX1 := hL _ hin.1
  have hY1 := hL _ hin.2
  have hX2 := upto_rise (inl (touchTo M.pr F.fn i 4).1) 8
  have hY2 := upto_rise (inl (touchTo M.pr F.fn i 4).2) 8
  have hX3 := upto_len (inl (touchTo M.pr F.fn i 4).1) 8
  have hY3 := upto_len (inl (touchTo M.pr F.fn i 4).2) 8
  have hS4 : S.size = 4 := frm_four hS.out hkn
  have hSx := fun k (h4 : k < 4) => str_ix hS.out hkn k h4
  have hn4 : ∀ k, regsN i.op k ≤ k := fun k => by
    induction k with
    | zero => exact Nat.le_refl _
    | succ k ih => unfold regsN isR; split <;> omega
  clear hA hin hL hsel hcode hins hsh hkn
  generalize upto (inl (touchTo M.pr F.fn i 4).1) 8 = X at *
  generalize upto (inl (touchTo M.pr F.fn i 4).2) 8 = Y at *
  obtain ⟨KF, KI, e1, e2, e3, e4, e5, e6, e7, e8, e9, e10⟩ := K
  have hLw : Hid (M.lies w) := hl
  have hKF : Hid (M.fns[f]? = some F) := KF
  have hKI : Hid (F.code[pc]? = some i) := KI
  clear hl hF hr KF KI
  go_enter Tryd.func4, Tryd.ntmps4
  go_wp2_with (first
    | (go_at_call 12; (with_reducible refine hrr.mono ?_); rintro e w1 ⟨rfl, hb1⟩; obtain ⟨p0, p1, p2, p3⟩ := bP.later hb1; (have hw1 := bthen hb hb1); obtain ⟨fb, fo, hfix, hfbl, fc0, fc1, fc2, fc3⟩ := fn_ix (hLw.out.later hw1).2.2.1 f F hKF.out)
    | (go_at_call 6; (with_reducible refine (c1 _ hw1).mono ?_); rintro e w2 ⟨va1, vc1, rfl, hr1, hb2⟩; (have hw2 := bthen hw1 hb2); clear p0 p1 p2 p3; obtain ⟨p0, p1, p2, p3⟩ := (bP.later hb1).later hb2)
    | (go_at_call 8; (with_reducible refine (c3 _ hw2).mono ?_); rintro e w3 ⟨va2, vc2, rfl, hr2, hb3⟩; (have hw3 := bthen hw2 hb3); (have hr13 := hr1.later hb3)))
  obtain ⟨W, hW⟩ : ∃ W, W = w3.alloc (.cells #[.slice va1 X.length vc1, .slice va2 Y.length vc2] 23) := ⟨_, rfl⟩
  have h3W : Below w3.heap.size w3 W := by rw [hW]; exact boxed _ _
  have hwW : Below w.heap.size w W := bthen hw3 h3W
  have hpair : Rows W 1 (some ⟨w3.heap.size, 0, none⟩) 2 [[.slice va1 X.length vc1], [.slice va2 Y.length vc2]] := by rw [hW]; exact rows_pair (heap_alloc_new w3 _)
  have hRX : Rows W 1 va1 vc1 (X.map chCells) := hr13.later h3W
  have hRY : Rows W 1 va2 vc2 (Y.map chCells) := hr2.later h3W
  have hPW : BoxP W w.heap.size M := (((bP.later hb1).later hb2).later hb3).later h3W
  rw [← hW]
  clear hW h3W hr13 hr2 hr1 p0 p1 p2 p3 hrr hfix fc0 fc1 fc2 fc3 hfbl c1 c3 hb1 hb2 hb3 hw1 hw2 hw3 bP hb
  generalize w3.heap.size = B at *
  have hk8 : (X.length : Int) ≤ 8 := by omega
  have hk9 : (Y.length : Int) ≤ 8 := by omega
  go_loopw [79] (fun u wr => ∃ k : Nat, k ≤ 2 ∧ u = .int .i64 k ∧ Below W.heap.size W wr) (fun u _ => 2 - (intOf u).toNat)
  case atStart => exact ⟨0, Nat.zero_le _, rfl, Below.refl _ _⟩
  case round =>
    obtain ⟨k, hk, rfl, hbe⟩ := hrel
    by_cases hlt : k < 2
    · obtain ⟨L, va, vc, hLk, hLR, hL1, hL2, hL3⟩ : ∃ (L : List Int) (va : Option Addr) (vc : Nat), ([[.slice va1 X.length vc1], [.slice va2 Y.length vc2]] : List (List Value))[k]? = some [.slice va L.length vc] ∧ Rows W 1 va vc (L.map chCells) ∧ (∀ z ∈ L, 0 ≤ z ∧ z < F.regs) ∧ L.Pairwise (· < ·) ∧ L.length ≤ 8 := by
        have h01 : k = 0 ∨ k = 1 := by omega
        rcases h01 with rfl | rfl
        · exact ⟨X, va1, vc1, rfl, hRX, hX1, hX2, hX3⟩
        · exact ⟨Y, va2, vc2, rfl, hRY, hY1, hY2, hY3⟩
      obtain ⟨bb, o, hix, hbl, hcl⟩ := (hpair.later hbe).ix 41 23 Tryd.underlying41 (by kernel_rfl) (fun wx => Tryd.sizeOf23 wx) k hLk
      have hc0 := hcl 0 _ rfl
      have hkI : (k : Int) < 2 := by omega
      have hLI : (L.length : Int) ≤ 8 := by omega
      simp only [List.length_cons, List.length_nil, Nat.zero_add, Nat.reduceAdd, Nat.add_zero] at hix hc0
      clear hcl hLk
      go_wp2_with fail
      go_loopw [85] (fun u wx => ∃ q : Nat, q ≤ L.length ∧ u = .int .i64 q ∧ Below W.heap.size W wx) (fun u _ => L.length - (intOf u).toNat)
      case atStart => exact ⟨0, Nat.zero_le _, rfl, hbe⟩
      case round =>
        clear hbe hix hbl hc0
        obtain ⟨q, hq, rfl, hbe⟩ := hrel
        by_cases hlq : q < L.length
        · obtain ⟨z, hz, hzm⟩ := get_lt L q hlq
          obtain ⟨zb, zo, hzix, hzbl, zc⟩ := ch_ix (hLR.later hbe) q z hz
          obtain ⟨p0, p1, p2, p3⟩ := hPW.later hbe
          obtain ⟨fb, fo, hfix, hfbl, fc0, fc1, fc2, fc3⟩ := fn_ix (hLw.out.later (bthen hwW hbe)).2.2.1 f F hKF.out
          have hz1 : ¬ z < 0 := by have := (hL1 z hzm).1; omega
          have hz2 : ¬ F.regs ≤ z := by have := (hL1 z hzm).2; omega
          have hqI : (q : Int) < 8 := by omega
          by_cases hq0 : q = 0
          · subst hq0
            have hzix0 : ∀ wx, (Instr.indexAt 23 (.slice va L.length vc) (.int .i64 0)).run Tryd.prog wx = .ok (.pointer (some ⟨zb, zo, none⟩)) wx := hzix
            have hlI0 : (0 : Int) < (L.length : Int) := by omega
            clear hzix
            go_wp2
            go_roundw
            case rel => exact ⟨0 + 1, by omega, by go_num, hbe⟩
            case measure => simp [intOf]; omega
          · obtain ⟨v, hv, hvm⟩ := get_lt L (q - 1) (by omega)
            obtain ⟨vb, vo, hvix, hvbl, vcc⟩ := ch_ix (hLR.later hbe) (q - 1) v hv
            have hvq : ((q - 1 : Nat) : Int) = (q : Int) - 1 := by omega
            rw [hvq] at hvix
            have hvz : ¬ z ≤ v := by
              obtain ⟨h1, h1'⟩ := List.getElem?_eq_some_iff.mp hv
              obtain ⟨h2, h2'⟩ := List.getElem?_eq_some_iff.mp hz
              have := List.pairwise_iff_getElem.mp hL2 (q - 1) q h1 h2 (by omega)
              omega
            have hqp : (0 : Int) < (q : Int) := by omega
            clear hvq
            go_wp2
            go_roundw
            case rel => exact ⟨q + 1, by omega, by go_num, hbe⟩
            case measure => simp [intOf]; omega
        · have hq2 : q = L.length := by omega
          subst hq2
          go_wp2
          go_roundw
          case rel => exact ⟨k + 1, by omega, by go_num, hbe⟩
          case measure => simp [intOf]; omega
    · have hk2 : k = 2 := by omega
      subst hk2
      obtain ⟨p0, p1, p2, p3⟩ := hPW.later hbe
      obtain ⟨fb, fo, hfix, hfbl, fc0, fc1, fc2, fc3⟩ := fn_ix (hLw.out.later (bthen hwW hbe)).2.2.1 f F hKF.out
      obtain ⟨ib, io, hiix, hibl, ic0, ic1, ic2, ic3, ic4⟩ := ins_ix ((hLw.out.later (bthen hwW hbe)).2.2.2.2.2.2 F hFm).1 pc i hKI.out
      have c4' := c4 wr (bthen hwW hbe)
      clear c4 hpair hRX hRY hX1 hX2 hY1 hY2 hlt
      go_wp2_with (go_at_call 13; (with_reducible refine c4'.mono ?_); rintro e w' ⟨rfl, rfl⟩)
      clear p0 p1 p2 p3 hfix fc0 fc1 fc2 fc3 hfbl hiix hibl ic0 ic1 ic2 ic3 ic4 c4'
      go_loopw [18, 19] (fun un uj wx => ∃ j : Nat, j ≤ 4 ∧ uj = .int .i64 j ∧ un = .int .i64 (regsN i.op j : Nat) ∧ Below W.heap.size W wx) (fun _ uj _ => 4 - (intOf uj).toNat)
      case atStart => exact ⟨0, Nat.zero_le _, rfl, rfl, hbe⟩
      case round =>
        clear hbe
        obtain ⟨j, hj, rfl, rfl, hbe⟩ := hrel
        have hnj := hn4 j
        by_cases hj4 : j < 4
        · have hsx := hSx j hj4
          clear hSx
          have hjI : (j : Int) < 4 := by omega
          by_cases h114 : lt i.op j = 114
          · have H : Hid (regsN i.op (j + 1) = regsN i.op j + 1) := isR_yes (.inl h114)
            rw [h114] at hsx
            clear h114
            generalize regsN i.op j = n at *
            have hnI : (n : Int) ≤ 4 := by omega
            go_wp2
            go_roundw
            case rel => exact ⟨j + 1, by omega, by go_num, by rw [H.out]; go_num, hbe⟩
            case measure => simp [intOf]; omega
          · by_cases h119 : lt i.op j = 119
            · have H : Hid (regsN i.op (j + 1) = regsN i.op j + 1) := isR_yes (.inr h119)
              rw [h119] at hsx
              clear h119 h114
              generalize regsN i.op j = n at *
              have hnI : (n : Int) ≤ 4 := by omega
              go_wp2
              go_roundw
              case rel => exact ⟨j + 1, by omega, by go_num, by rw [H.out]; go_num, hbe⟩
              case measure => simp [intOf]; omega
            · have H : Hid (regsN i.op (j + 1) = regsN i.op j) := isR_no (fun q => by rcases q with q | q; exact h114 q; exact h119 q)
              generalize lt i.op j = L at *
              generalize regsN i.op j = n at *
              have b1 : (L == 114) = false := by simpa using h114
              have b2 : (L == 119) = false := by simpa using h119
              clear h114 h119
              go_wp2
              go_roundw
              case rel => exact ⟨j + 1, by omega, by go_num, by rw [H.out], hbe⟩
              case measure => simp [intOf]; omega
        · have hj2 : j = 4 := by omega
          subst hj2
          obtain ⟨p0, p1, p2, p3⟩ := hPW.later hbe
          obtain ⟨fb, fo, hfix, hfbl, fc0, fc1, fc2, fc3⟩ := fn_ix (hLw.out.later (bthen hwW hbe)).2.2.1 f F hKF.out
          obtain ⟨ib, io, hiix, hibl, ic0, ic1, ic2, ic3, ic4⟩ := ins_ix ((hLw.out.later (bthen hwW hbe)).2.2.2.2.2.2 F hFm).1 pc i hKI.out
          have hwr : Below w.heap.size w wr := bthen hwW hbe
          have hh1 := hfew.out
          have hh2 := hsome.out
          clear hfew hsome hSx hn4
          generalize hN : regsN i.op 4 = n at *
          clear hN
          have hnI : (n : Int) ≤ 4 := by omega
          by_cases hn0 : n = 0
          · subst hn0
            by_cases h61 : i.op = 61
            · clear hh1 hh2
              go_wp2
              go_ret
              exact ⟨rfl, hwr⟩
            · by_cases h62 : i.op = 62
              · clear hh1 hh2
                go_wp2
                go_ret
                exact ⟨rfl, hwr⟩
              · have hle : (X.length : Int) + (Y.length : Int) ≤ 2 := by have := hh1 h61 h62; omega
                clear hh1 hh2
                go_wp2
                go_ret
                exact ⟨rfl, hwr⟩
          · have hgt : 0 < (X.length : Int) + (Y.length : Int) := by have := hh2 hn0; omega
            have hnz : ¬ (n : Int) = 0 := by omega
            by_cases h61 : i.op = 61
            · clear hh1 hh2
              go_wp2
              go_ret
              exact ⟨rfl, hwr⟩
            · by_cases h62 : i.op = 62
              · clear hh1 hh2
                go_wp2
                go_ret
                exact ⟨rfl, hwr⟩
              · have hle : (X.length : Int) + (Y.length : Int) ≤ (n : Int) + 2 := by have := hh1 h61 h62; omega
                clear hh1 hh2
                go_wp2
                go_ret
                exact ⟨rfl, hwr⟩
end Go.Proofs.YtaghfahhfockkaaDoor.pg
