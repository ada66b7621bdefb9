/- What the document's own search asks: is all done, may a place come next, are two things the same. -/
import Derived.Test.YtklpifammbnldaaM33
namespace Go.Proofs.Ytklpifammbnldaa.pg
open Go.ChangeShapes Go.WideShapes Go.ChangeAt Go.RowKit
set_option linter.unusedVariables false
set_option linter.unusedSimpArgs false
set_option maxRecDepth 100000
attribute [local go_sem ↓] Go.wp_at_zero Go.wp_at_succ
theorem all_step (p : Nat → Bool) (i : Nat) : (List.range (i + 1)).all p = ((List.range i).all p && p i) := by
  rw [List.range_succ, List.all_append]; simp
section
variable {k : Int} {ha oa : Option Addr} {h : List Cl} {hc on oc S : Nat} {w : World}
set_option maxHeartbeats 4000000 in
theorem rwhole_any {D : Nat} {tm : Bool} (hs : w.heap[S]? = some (oSd k ha h.length hc tm oa on oc)) (hh : Rows w 7 ha hc (h.map Cl.cells)) (hn : h.length ≤ 8) (hD : D < 256) : Calls Try.prog 48 #[.pointer (some ⟨S, 0, none⟩), .int .i64 (D : Int)] w fun e w' => e = .returned (.bool (wholeB h (fD D))) ∧ w' = w := by
  obtain ⟨k0, k1, k2, k3⟩ := sd_cells hs
  have hD8 : Hid (D < 256) := hD
  have hn8 : Hid (h.length ≤ 8) := hn
  have hnI : (h.length : Int) ≤ 8 := by omega
  have hhH : Hid (Rows w 7 ha hc (h.map Cl.cells)) := hh
  obtain ⟨W, hW⟩ : ∃ W, wholeB h (fD D) = W := ⟨_, rfl⟩
  have hWH : Hid ((List.range h.length).all (fun i => (hf h i).pend || fD D i) = W) := hW
  rw [hW]
  clear hs hD hh hn hW
  go_enter Try.func48, Try.ntmps48
  go_wp2
  go_loopw [5] (fun u wr => ∃ i : Nat, i ≤ h.length ∧ u = .int .i64 (i : Int) ∧ Hid ((List.range i).all (fun i => (hf h i).pend || fD D i) = true) ∧ wr = w) (fun u _ => h.length - (intOf u).toNat)
  case atStart => exact ⟨0, Nat.zero_le _, rfl, rfl, rfl⟩
  case round =>
    obtain ⟨i, hi, rfl, hst, rfl⟩ := hrel
    by_cases hlt : i < h.length
    · have hiI : (i : Int) < h.length := by omega
      have hi8 : i < 8 := by have := hn8.out; omega
      have hsp : Hid ((List.range (i + 1)).all (fun i => (hf h i).pend || fD D i) = ((hf h i).pend || fD D i)) := by
        show _ = _
        rw [all_step, hst.out, Bool.true_and]
      obtain ⟨b1, o1, x1, _, r1⟩ := cl_ix hhH.out hlt
      have c6 := r1 6 _ rfl
      have hpe : ((hf h i).en != -1) = !(hf h i).pend := rfl
      have hbt : (bits BinOp.and IntKind.i64 ((D : Int) / 2 ^ i) 1 == 0) = !(fD D i) := by
        have := bit_at hD8.out hi8
        rw [show min i 64 = i by omega] at this
        rw [this]; cases fD D i <;> rfl
      generalize hf h i = x at *
      generalize fD D i = b at *
      generalize x.pend = p at *
      clear r1 hst
      cases p with
      | true =>
        simp only [Bool.not_true] at hpe
        go_wp2
        go_roundw
        case rel => exact ⟨i + 1, by omega, by go_num, (by show _ = _; rw [hsp.out]; rfl), trivial⟩
        case measure => simp [intOf]; omega
      | false =>
        simp only [Bool.not_false] at hpe
        cases b with
        | true =>
          simp only [Bool.not_true] at hbt
          go_wp2
          go_roundw
          case rel => exact ⟨i + 1, by omega, by go_num, (by show _ = _; rw [hsp.out]; rfl), trivial⟩
          case measure => simp [intOf]; omega
        | false =>
          simp only [Bool.not_false] at hbt
          have hwf : Hid (W = false) := by
            show _ = _
            rw [← hWH.out]
            refine Bool.eq_false_iff.mpr fun q => ?_
            rw [List.all_eq_true] at q
            have h1 : (List.range (i + 1)).all (fun i => (hf h i).pend || fD D i) = true := List.all_eq_true.mpr fun z hz => q z (List.mem_range.mpr (by have := List.mem_range.mp hz; omega))
            rw [hsp.out] at h1
            cases h1
          go_wp2
          go_ret
          exact ⟨by (rw [hwf.out]; rfl), rfl⟩
    · have hie : i = h.length := by omega
      have hiI : ¬ (i : Int) < h.length := by omega
      have hwt : Hid (W = true) := by (show _ = _; rw [← hWH.out, ← hie]; exact hst.out)
      go_wp2
      go_ret
      exact ⟨by (rw [hwt.out]; rfl), rfl⟩
/-- What may asks of place j. -/
def okJ (rel : Cl → Cl → Bool) (h : List Cl) (f : Nat → Bool) (i j : Nat) : Bool := (j == i) || (!(rel (hf h j) (hf h i) && !f j && !(hf h j).pend) && !(rel (hf h i) (hf h j) && f j))
theorem all_false {p : Nat → Bool} {n j : Nat} (hj : j < n) (h : p j = false) : (List.range n).all p = false := by
  refine Bool.eq_false_iff.mpr fun q => ?_
  rw [List.all_eq_true] at q
  rw [q j (List.mem_range.mpr hj)] at h
  cases h
set_option maxHeartbeats 8000000 in
theorem rmay_any {D i : Nat} {tm : Bool} (hs : w.heap[S]? = some (oSd k ha h.length hc tm oa on oc)) (hh : Rows w 7 ha hc (h.map Cl.cells)) (hn : h.length ≤ 8) (hD : D < 256) (hi : i < h.length) : Calls Try.prog 50 #[.pointer (some ⟨S, 0, none⟩), .int .i64 (D : Int), .int .i64 (i : Int)] w fun e w' => e = .returned (.bool (mayR (relT tm) h (fD D) i)) ∧ Below w.heap.size w w' := by
  have hk0 : Hid (∀ wx, Below w.heap.size w wx → wx.cell? ⟨S, 1, none⟩ = some (.slice ha h.length hc)) := fun wx q => (sd_cells (blk_on hs q)).2.1
  have hD8 : Hid (D < 256) := hD
  have hn8 : Hid (h.length ≤ 8) := hn
  have hnI : (h.length : Int) ≤ 8 := by omega
  have hii : Hid (i < h.length) := hi
  have hhH : Hid (Rows w 7 ha hc (h.map Cl.cells)) := hh
  have cB : ∀ (a b : Nat) (wx : World), a < h.length → b < h.length → Below w.heap.size w wx → Calls Try.prog 67 #[.pointer (some ⟨S, 0, none⟩), .int .i64 (a : Int), .int .i64 (b : Int)] wx fun e w' => e = .returned (.bool (relT tm (hf h a) (hf h b))) ∧ Below wx.heap.size wx w' := fun a b wx ha hb q => before_any (blk_on hs q) (hh.later q) ha hb
  have cBH : Hid (∀ (a b : Nat) (wx : World), a < h.length → b < h.length → Below w.heap.size w wx → Calls Try.prog 67 #[.pointer (some ⟨S, 0, none⟩), .int .i64 (a : Int), .int .i64 (b : Int)] wx fun e w' => e = .returned (.bool (relT tm (hf h a) (hf h b))) ∧ Below wx.heap.size wx w') := cB
  clear cB
  obtain ⟨W, hW⟩ : ∃ W, mayR (relT tm) h (fD D) i = W := ⟨_, rfl⟩
  have hWH : Hid ((!fD D i && (List.range h.length).all (okJ (relT tm) h (fD D) i)) = W) := hW
  rw [hW]
  have hbi : (bits BinOp.and IntKind.i64 ((D : Int) / 2 ^ i) 1 == 1) = fD D i := by
    have := bit_at (i := i) hD (by omega)
    rw [show min i 64 = i by omega] at this
    rw [this]; cases fD D i <;> rfl
  have hiI8 : (i : Int) < 8 := by omega
  have hB0 : Hid (Below w.heap.size w w) := Below.refl _ _
  clear hs hD hh hn hW hi
  go_enter Try.func50, Try.ntmps50
  cases hfi : fD D i with
  | true =>
    have hwf : Hid (W = false) := by (show _ = _; rw [← hWH.out, hfi]; rfl)
    rw [hfi] at hbi
    clear hfi
    go_wp2
    go_ret
    exact ⟨by (rw [hwf.out]; rfl), hB0.out⟩
  | false =>
    have hWa : Hid ((List.range h.length).all (okJ (relT tm) h (fD D) i) = W) := by (show _ = _; rw [← hWH.out, hfi]; rfl)
    rw [hfi] at hbi
    clear hfi hWH
    go_wp2
    go_loopw [7] (fun u wr => ∃ j : Nat, j ≤ h.length ∧ u = .int .i64 (j : Int) ∧ Hid ((List.range j).all (okJ (relT tm) h (fD D) i) = true) ∧ Hid (Below w.heap.size w wr)) (fun u _ => h.length - (intOf u).toNat)
    case atStart => exact ⟨0, Nat.zero_le _, rfl, rfl, hB0⟩
    case round =>
      obtain ⟨j, hj, rfl, hst, hBr⟩ := hrel
      clear hB0 hbi
      have k1 := hk0.out _ hBr.out
      by_cases hlt : j < h.length
      · have hjI : (j : Int) < h.length := by omega
        have hsp : Hid ((List.range (j + 1)).all (okJ (relT tm) h (fD D) i) = okJ (relT tm) h (fD D) i j) := by
          show _ = _
          rw [all_step, hst.out, Bool.true_and]
        have hwf : Hid (okJ (relT tm) h (fD D) i j = false → W = false) := fun q => by rw [← hWa.out]; exact all_false hlt q
        by_cases hij : j = i
        · subst hij
          have ho : Hid (okJ (relT tm) h (fD D) j j = true) := by (show _ = _; unfold okJ; simp)
          go_wp2
          go_roundw
          case rel => exact ⟨j + 1, by omega, by go_num, (by show _ = _; rw [hsp.out]; exact ho.out), hBr⟩
          case measure => simp [intOf]; omega
        · have hne : ((j : Int) != (i : Int)) = true := by
            rw [bne_iff_ne]; omega
          have hbt : (bits BinOp.and IntKind.i64 ((D : Int) / 2 ^ j) 1 == 0) = !(fD D j) := by
            have := bit_at (i := j) hD8.out (by have := hn8.out; omega)
            rw [show min j 64 = j by omega] at this
            rw [this]; cases fD D j <;> rfl
          have hbo : (bits BinOp.and IntKind.i64 ((D : Int) / 2 ^ j) 1 == 1) = fD D j := by
            have := bit_at (i := j) hD8.out (by have := hn8.out; omega)
            rw [show min j 64 = j by omega] at this
            rw [this]; cases fD D j <;> rfl
          have cA := cBH.out j i _ hlt hii.out hBr.out
          have hok : Hid (okJ (relT tm) h (fD D) i j = (!(relT tm (hf h j) (hf h i) && !fD D j && !(hf h j).pend) && !(relT tm (hf h i) (hf h j) && fD D j))) := by
            show _ = _
            unfold okJ
            rw [beq_eq_false_iff_ne.mpr hij, Bool.false_or]
          have cC := fun wx q => cBH.out i j wx hii.out hlt q
          have hxI : Hid (∀ wx, Below w.heap.size w wx → ∃ b1 o1, (∀ wy, (Instr.indexAt 22 (.slice ha h.length hc) (.int .i64 (j : Int))).run Try.prog wy = .ok (.pointer (some ⟨b1, o1, none⟩)) wy) ∧ wx.cell? ⟨b1, o1 + 6, none⟩ = some (.int .i64 (hf h j).en)) := fun wx q => by
            obtain ⟨b1, o1, x1, _, r1⟩ := cl_ix (hhH.out.later q) hlt
            exact ⟨b1, o1, x1, r1 6 _ rfl⟩
          have hpe : ((hf h j).en != -1) = !(hf h j).pend := rfl
          rw [hok.out] at hsp hwf
          clear hok hst hij
          generalize relT tm (hf h j) (hf h i) = a at *
          generalize relT tm (hf h i) (hf h j) = c at *
          generalize fD D j = b at *
          generalize hf h j = x at *
          generalize x.pend = p at *
          have cCH : Hid (∀ wx, Below w.heap.size w wx → Calls Try.prog 67 #[.pointer (some ⟨S, 0, none⟩), .int .i64 (i : Int), .int .i64 (j : Int)] wx fun e w' => e = .returned (.bool c) ∧ Below wx.heap.size wx w') := cC
          clear cC
          cases a with
          | false =>
            go_upto_region 8 with (first
              | (go_at_call 67; (with_reducible refine cA.mono ?_); rintro e w1 ⟨rfl, hb⟩; (have hB1 : Hid (Below w.heap.size w w1) := bthen hBr.out hb); clear hb cA k1))
            have cD := cCH.out _ hB1.out
            clear cCH
            cases c with
            | false =>
              go_wp2_with (first
                | (go_at_call 67; (with_reducible refine cD.mono ?_); rintro e w2 ⟨rfl, hb⟩; (have hB2 : Hid (Below w.heap.size w w2) := bthen hB1.out hb); clear hb cD))
              go_roundw
              case rel => exact ⟨j + 1, by omega, by go_num, (by show _ = _; rw [hsp.out]; first | rfl | simp), hB2⟩
              case measure => simp [intOf]; omega
            | true =>
              cases b with
              | true =>
                go_wp2_with (first
                  | (go_at_call 67; (with_reducible refine cD.mono ?_); rintro e w2 ⟨rfl, hb⟩; (have hB2 : Hid (Below w.heap.size w w2) := bthen hB1.out hb); clear hb cD))
                go_ret
                exact ⟨by (rw [hwf.out (by first | rfl | simp)]; rfl), hB2.out⟩
              | false =>
                go_wp2_with (first
                  | (go_at_call 67; (with_reducible refine cD.mono ?_); rintro e w2 ⟨rfl, hb⟩; (have hB2 : Hid (Below w.heap.size w w2) := bthen hB1.out hb); clear hb cD))
                go_roundw
                case rel => exact ⟨j + 1, by omega, by go_num, (by show _ = _; rw [hsp.out]; first | rfl | simp), hB2⟩
                case measure => simp [intOf]; omega
          | true =>
            cases b with
            | true =>
              simp only [Bool.not_true] at hbt
              go_upto_region 8 with (first
                | (go_at_call 67; (with_reducible refine cA.mono ?_); rintro e w1 ⟨rfl, hb⟩; (have hB1 : Hid (Below w.heap.size w w1) := bthen hBr.out hb); clear hb cA k1))
              have cD := cCH.out _ hB1.out
              clear cCH
              cases c with
              | false =>
                go_wp2_with (first
                  | (go_at_call 67; (with_reducible refine cD.mono ?_); rintro e w2 ⟨rfl, hb⟩; (have hB2 : Hid (Below w.heap.size w w2) := bthen hB1.out hb); clear hb cD))
                go_roundw
                case rel => exact ⟨j + 1, by omega, by go_num, (by show _ = _; rw [hsp.out]; first | rfl | simp), hB2⟩
                case measure => simp [intOf]; omega
              | true =>
                go_wp2_with (first
                  | (go_at_call 67; (with_reducible refine cD.mono ?_); rintro e w2 ⟨rfl, hb⟩; (have hB2 : Hid (Below w.heap.size w w2) := bthen hB1.out hb); clear hb cD))
                go_ret
                exact ⟨by (rw [hwf.out (by first | rfl | simp)]; rfl), hB2.out⟩
            | false =>
              simp only [Bool.not_false] at hbt
              cases p with
              | true =>
                simp only [Bool.not_true] at hpe
                go_upto_region 8 with (first
                  | (go_at_call 67; (with_reducible refine cA.mono ?_); rintro e w1 ⟨rfl, hb⟩; (have hB1 : Hid (Below w.heap.size w w1) := bthen hBr.out hb); clear hb cA k1; (obtain ⟨b1, o1, x1, c6⟩ := hxI.out _ hB1.out); (have k1 := hk0.out _ hB1.out)))
                have cD := cCH.out _ hB1.out
                clear cCH
                cases c with
                | false =>
                  go_wp2_with (first
                    | (go_at_call 67; (with_reducible refine cD.mono ?_); rintro e w2 ⟨rfl, hb⟩; (have hB2 : Hid (Below w.heap.size w w2) := bthen hB1.out hb); clear hb cD))
                  go_roundw
                  case rel => exact ⟨j + 1, by omega, by go_num, (by show _ = _; rw [hsp.out]; first | rfl | simp), hB2⟩
                  case measure => simp [intOf]; omega
                | true =>
                  go_wp2_with (first
                    | (go_at_call 67; (with_reducible refine cD.mono ?_); rintro e w2 ⟨rfl, hb⟩; (have hB2 : Hid (Below w.heap.size w w2) := bthen hB1.out hb); clear hb cD))
                  go_roundw
                  case rel => exact ⟨j + 1, by omega, by go_num, (by show _ = _; rw [hsp.out]; first | rfl | simp), hB2⟩
                  case measure => simp [intOf]; omega
              | false =>
                simp only [Bool.not_false] at hpe
                go_wp2_with (first
                  | (go_at_call 67; (with_reducible refine cA.mono ?_); rintro e w1 ⟨rfl, hb⟩; (have hB1 : Hid (Below w.heap.size w w1) := bthen hBr.out hb); clear hb cA k1; (obtain ⟨b1, o1, x1, c6⟩ := hxI.out _ hB1.out); (have k1 := hk0.out _ hB1.out)))
                go_ret
                exact ⟨by (rw [hwf.out rfl]; rfl), hB1.out⟩
      · have hje : j = h.length := by omega
        have hjI : ¬ (j : Int) < h.length := by omega
        have hwt : Hid (W = true) := by (show _ = _; rw [← hWa.out, ← hje]; exact hst.out)
        go_wp2
        go_ret
        exact ⟨by (rw [hwt.out]; rfl), hBr.out⟩
/-- What a thing is compared by. -/
theorem rep_same {v : World} {c c' : List Int} {n n' : Int} {a a' : Option Addr} {m m' lc lc' : Nat} (g : RepD v k c n a m lc) (g' : RepD w k c' n' a' m' lc') : ∃ l l' : List Int, m = l.length ∧ m' = l'.length ∧ Rows v 1 a lc (l.map chCells) ∧ Rows w 1 a' lc' (l'.map chCells) ∧ ((n = n' ∧ l = l') ↔ c = c') := by
  have rn : ∀ u : World, Rows u 1 none 0 (([] : List Int).map chCells) := fun u => ⟨Nat.le_refl _, by decide, fun _ => ⟨rfl, rfl⟩, .inl rfl⟩
  rcases g with ⟨h1, rfl, rfl, rfl, rfl⟩ | ⟨h1, rfl, rfl, hr⟩
  · rcases g' with ⟨h2, rfl, rfl, rfl, rfl⟩ | ⟨h2, _⟩
    · exact ⟨[], [], rfl, rfl, rn _, rn _, ⟨fun q => by rw [q.1], fun q => ⟨by simpa using q, rfl⟩⟩⟩
    · omega
  · rcases g' with ⟨h2, _⟩ | ⟨h2, rfl, rfl, hr'⟩
    · omega
    · exact ⟨c, c', rfl, rfl, hr, hr', ⟨fun q => q.2, fun q => ⟨rfl, q⟩⟩⟩
theorem take_ext {l l' : List Int} {i : Nat} {x y : Int} (h : l.take i = l'.take i) (hx : l[i]? = some x) (hy : l'[i]? = some y) : (l.take (i + 1) = l'.take (i + 1)) ↔ x = y := by
  rw [List.take_add_one, List.take_add_one, h, hx, hy]
  simp
set_option maxHeartbeats 8000000 in
theorem rsame_th (l l' : List Int) (n n' : Int) (a a' : Option Addr) (lc lc' : Nat) (hr : Rows w 1 a lc (l.map chCells)) (hr' : Rows w 1 a' lc' (l'.map chCells)) (hl : l.length ≤ 2 ^ 40) (hl' : l'.length ≤ 2 ^ 40) (r : Bool) (he : r = true ↔ (n = n' ∧ l = l')) : Calls Try.prog 49 #[.agg #[.int .i64 n, .slice a l.length lc], .agg #[.int .i64 n', .slice a' l'.length lc']] w fun e w' => e = .returned (.bool r) ∧ Below w.heap.size w w' := by
  have hrH : Hid (∀ wx, Below w.heap.size w wx → Rows wx 1 a lc (l.map chCells) ∧ Rows wx 1 a' lc' (l'.map chCells)) := fun wx q => ⟨hr.later q, hr'.later q⟩
  have hlI : (l.length : Int) ≤ 1099511627776 := by omega
  have heH : Hid (r = true ↔ (n = n' ∧ l = l')) := he
  have hbx : Hid (Below w.heap.size w ((w.alloc (oDg n a l.length lc)).alloc (oDg n' a' l'.length lc')) ∧ ((w.alloc (oDg n a l.length lc)).alloc (oDg n' a' l'.length lc')).heap[w.heap.size]? = some (oDg n a l.length lc) ∧ ((w.alloc (oDg n a l.length lc)).alloc (oDg n' a' l'.length lc')).heap[w.heap.size + 1]? = some (oDg n' a' l'.length lc')) := by
    refine ⟨bthen (boxed _ _) (boxed _ _), blk_on (heap_alloc_new _ _) (boxed _ _), ?_⟩
    have n2 := heap_alloc_new (w.alloc (oDg n a l.length lc)) (oDg n' a' l'.length lc')
    rw [World.size_alloc] at n2
    exact n2
  clear hr hr' he
  go_enter Try.func49, Try.ntmps49
  go_upto_region 1 with fail
  obtain ⟨X, hX⟩ : ∃ X, (w.alloc (oDg n a l.length lc)).alloc (oDg n' a' l'.length lc') = X := ⟨_, rfl⟩
  rw [hX] at hbx ⊢
  obtain ⟨k0, k1⟩ : X.cell? ⟨w.heap.size, 0, none⟩ = some (.int .i64 n) ∧ X.cell? ⟨w.heap.size, 1, none⟩ = some (.slice a l.length lc) := ⟨cell_lc (k := 0) hbx.out.2.1 rfl, cell_lc (k := 1) hbx.out.2.1 rfl⟩
  obtain ⟨j0, j1⟩ : X.cell? ⟨w.heap.size + 1, 0, none⟩ = some (.int .i64 n') ∧ X.cell? ⟨w.heap.size + 1, 1, none⟩ = some (.slice a' l'.length lc') := ⟨cell_lc (k := 0) hbx.out.2.2 rfl, cell_lc (k := 1) hbx.out.2.2 rfl⟩
  clear hX
  by_cases hn : n = n'
  · subst hn
    by_cases hlen : l.length = l'.length
    · have hll : ((l.length : Int) != (l'.length : Int)) = false := by rw [hlen]; simp
      have hlH : Hid (l.length = l'.length) := hlen
      clear hlen
      go_wp2_with fail
      go_loopw [5] (fun u wr => ∃ i : Nat, i ≤ l.length ∧ u = .int .i64 (i : Int) ∧ Hid (l.take i = l'.take i) ∧ Hid (Below w.heap.size w wr ∧ wr.heap[w.heap.size]? = some (oDg n a l.length lc) ∧ wr.heap[w.heap.size + 1]? = some (oDg n a' l'.length lc'))) (fun u _ => l.length - (intOf u).toNat)
      case atStart => exact ⟨0, Nat.zero_le _, rfl, (by show _ = _; simp), hbx⟩
      case round =>
        obtain ⟨i, hi, rfl, hst, hbr⟩ := hrel
        clear hbx k0 k1 j0 j1
        by_cases hlt : i < l.length
        · have hiI : (i : Int) < l.length := by omega
          obtain ⟨x, hx⟩ : ∃ x, l[i]? = some x := ⟨_, List.getElem?_eq_getElem hlt⟩
          obtain ⟨y, hy⟩ : ∃ y, l'[i]? = some y := ⟨_, List.getElem?_eq_getElem (by have := hlH.out; omega)⟩
          obtain ⟨b1, o1, x1, _, c1⟩ := ch64_ix (hrH.out _ hbr.out.1).1 i x hx
          obtain ⟨b2, o2, x2, _, c2⟩ := ch64_ix (hrH.out _ hbr.out.1).2 i y hy
          have hte : Hid ((l.take (i + 1) = l'.take (i + 1)) ↔ x = y) := take_ext hst.out hx hy
          have hne : Hid (x ≠ y → l ≠ l') := fun q e => q (by rw [e, hy] at hx; exact (Option.some.inj hx).symm)
          obtain ⟨k0, k1⟩ : wr.cell? ⟨w.heap.size, 0, none⟩ = some (.int .i64 n) ∧ wr.cell? ⟨w.heap.size, 1, none⟩ = some (.slice a l.length lc) := ⟨cell_lc (k := 0) hbr.out.2.1 rfl, cell_lc (k := 1) hbr.out.2.1 rfl⟩
          obtain ⟨j0, j1⟩ : wr.cell? ⟨w.heap.size + 1, 0, none⟩ = some (.int .i64 n) ∧ wr.cell? ⟨w.heap.size + 1, 1, none⟩ = some (.slice a' l'.length lc') := ⟨cell_lc (k := 0) hbr.out.2.2 rfl, cell_lc (k := 1) hbr.out.2.2 rfl⟩
          clear hst hx hy
          by_cases hxy : x = y
          · subst hxy
            have hxx : (x != x) = false := by simp
            go_upto_region 6 with fail
            go_quiet (fail)
            rename_i nq
            have hb9 : Hid (Below w.heap.size w (wr.drewN nq) ∧ (wr.drewN nq).heap[w.heap.size]? = some (oDg n a l.length lc) ∧ (wr.drewN nq).heap[w.heap.size + 1]? = some (oDg n a' l'.length lc')) := ⟨bthen hbr.out.1 (below_drewN (Below.refl _ _) _), hbr.out.2.1, hbr.out.2.2⟩
            go_wp2
            go_roundw
            case rel => exact ⟨i + 1, by omega, by go_num, hte.out.mpr rfl, hb9⟩
            case measure => simp [intOf]; omega
          · have hxx : (x != y) = true := by rw [bne_iff_ne]; exact hxy
            have hrf : Hid (r = false) := Bool.eq_false_iff.mpr fun q => hne.out hxy (heH.out.mp q).2
            clear hxy
            go_upto_region 6 with fail
            go_quiet (fail)
            rename_i nq
            have hb9 : Hid (Below w.heap.size w (wr.drewN nq)) := bthen hbr.out.1 (below_drewN (Below.refl _ _) _)
            go_wp2
            go_ret
            exact ⟨by (rw [hrf.out]; rfl), hb9.out⟩
        · have hie : i = l.length := by omega
          have hiI : ¬ (i : Int) < l.length := by omega
          obtain ⟨k0, k1⟩ : wr.cell? ⟨w.heap.size, 0, none⟩ = some (.int .i64 n) ∧ wr.cell? ⟨w.heap.size, 1, none⟩ = some (.slice a l.length lc) := ⟨cell_lc (k := 0) hbr.out.2.1 rfl, cell_lc (k := 1) hbr.out.2.1 rfl⟩
          have hrt : Hid (r = true) := heH.out.mpr ⟨by trivial, by
            have := hst.out
            rw [hie, List.take_length, hlH.out, List.take_length] at this
            exact this⟩
          go_wp2
          go_ret
          exact ⟨by (rw [hrt.out]; rfl), hbr.out.1⟩
    · have hll : ((l.length : Int) != (l'.length : Int)) = true := by rw [bne_iff_ne]; omega
      have hrf : Hid (r = false) := Bool.eq_false_iff.mpr fun q => hlen (by rw [(heH.out.mp q).2])
      go_wp2
      go_ret
      exact ⟨by (rw [hrf.out]; rfl), hbx.out.1⟩
  · have hnn : (n != n') = true := by rw [bne_iff_ne]; exact hn
    have hrf : Hid (r = false) := Bool.eq_false_iff.mpr fun q => hn (heH.out.mp q).1
    clear hn
    go_wp2
    go_ret
    exact ⟨by (rw [hrf.out]; rfl), hbx.out.1⟩
end
end Go.Proofs.Ytklpifammbnldaa.pg
/- The document's own search goes on: how it stands. -/
namespace Go.Proofs.Ytklpifammbnldaa.pg
open Go.ChangeShapes Go.WideShapes Go.ChangeAt Go.RowKit
set_option linter.unusedVariables false
set_option linter.unusedSimpArgs false
set_option maxRecDepth 100000
/-- What was tried in vain. -/
structure Tr where
  D : Nat
  c : List Int
  n : Int
  a : Option Addr
  m : Nat
  lc : Nat
abbrev Tr.cells (q : Tr) : List Value := [.int .i64 (q.D : Int), .int .i64 q.n, .slice q.a q.m q.lc]
theorem tr_len (T : List Tr) : ∀ row ∈ T.map Tr.cells, row.length = 3 := fun row hr => by
  obtain ⟨q, _, rfl⟩ := List.mem_map.mp hr
  rfl
theorem rep_keepB {w w' : World} {k : Int} {c : List Int} {n : Int} {a : Option Addr} {m lc : Nat} (g : RepD w k c n a m lc) (hk : ∀ b ∈ blk a, w'.heap[b]? = w.heap[b]?) : RepD w' k c n a m lc := g.imp_right fun ⟨h1, h2, h3, h4⟩ => ⟨h1, h2, h3, rows_keepL h4 hk⟩
theorem seen_ix {w : World} {a : Option Addr} {cap : Nat} {T : List Tr} (hR : Rows w 3 a cap (T.map Tr.cells)) {i : Nat} {q : Tr} (hi : T[i]? = some q) :
    ∃ b o, (∀ wx, (Instr.indexAt 70 (.slice a T.length cap) (.int .i64 (i : Int))).run Try.prog wx = .ok (.pointer (some ⟨b, o, none⟩)) wx) ∧ b < w.heap.size ∧ w.rangeAt b o q.cells := by
  obtain ⟨b, o, hr, hlt, hc⟩ := hR.ix 70 110 Try.underlying70 (by kernel_rfl) (fun wx => Try.sizeOf110 wx) i (row := q.cells) (by rw [List.getElem?_map, hi]; rfl)
  rw [List.length_map] at hr
  exact ⟨b, o, hr, hlt, hc⟩
section
variable {w0 W X X' : World} {k : Int} {h : List Cl} {ha : Option Addr} {hc : Nat} {tm : Bool} {S : Nat} {T T' : List Tr} {oa oa0 oa' : Option Addr} {oc oc' : Nat} {c : List Int} {n : Int} {a : Option Addr} {m lc D : Nat}
/-- How the document's search stands. -/
structure SdS (w0 X : World) (k : Int) (h : List Cl) (ha : Option Addr) (hc : Nat) (tm : Bool) (S : Nat) (T : List Tr) (oa : Option Addr) (oc : Nat) : Prop where
  s : X.heap[S]? = some (oSd k ha h.length hc tm oa T.length oc)
  o : OwnL X w0.heap.size 110 3 oa oc (T.map Tr.cells)
  b : Below w0.heap.size w0 X
  d1 : w0.heap.size ≤ S
  n2 : S ∉ blk oa
  r : ∀ q ∈ T, RepD X k q.c q.n q.a q.m q.lc ∧ q.c.length ≤ 8
  bl : ∀ q ∈ T, ∀ g ∈ blk q.a, g ≠ S ∧ g ∉ blk oa ∧ g < X.heap.size
theorem SdS.lt (g : SdS w0 X k h ha hc tm S T oa oc) : S < X.heap.size := (Array.getElem?_eq_some_iff.mp g.s).1
theorem SdS.below (g : SdS w0 X k h ha hc tm S T oa oc) (hb : Below X.heap.size X X') : SdS w0 X' k h ha hc tm S T oa oc :=
  ⟨blk_on g.s hb, own_keep g.o fun b hbb => hb.block b (blk_lt g.o b hbb).2, bthen g.b hb, g.d1, g.n2, fun q hq => ⟨(g.r q hq).1.later hb, (g.r q hq).2⟩, fun q hq b hbb => ⟨(g.bl q hq b hbb).1, (g.bl q hq b hbb).2.1, Nat.lt_of_lt_of_le (g.bl q hq b hbb).2.2 hb.size⟩⟩
theorem SdS.rows (g : SdS w0 X k h ha hc tm S T oa oc) : Rows X 3 oa oc (T.map Tr.cells) := own_rows g.o (tr_len T)
/-- How a call of on stands. -/
structure OnS (w0 W X : World) (k : Int) (h : List Cl) (ha : Option Addr) (hc : Nat) (tm : Bool) (S : Nat) (T : List Tr) (oa0 oa : Option Addr) (oc : Nat) (c : List Int) (n : Int) (a : Option Addr) (m lc : Nat) : Prop where
  g : SdS w0 X k h ha hc tm S T oa oc
  fr : Fr W X S S oa0 oa
  d : X.heap[W.heap.size]? = some (oDg n a m lc)
  l : ∀ b ∈ blk oa, b ≠ W.heap.size
  ls : S < W.heap.size
  x : RepD W k c n a m lc
  xb : ∀ b ∈ blk a, b ≠ S ∧ b ∉ blk oa0 ∧ b < W.heap.size
theorem OnS.start (g : SdS w0 W k h ha hc tm S T oa oc) (hx : RepD W k c n a m lc) (hb : ∀ b ∈ blk a, b ≠ S ∧ b ∉ blk oa ∧ b < W.heap.size) : OnS w0 W (W.alloc (oDg n a m lc)) k h ha hc tm S T oa oa oc c n a m lc := by
  refine ⟨g.below (boxed _ _), Fr.refl.below (boxed _ _), heap_alloc_new _ _, fun b hbb => ?_, g.lt, hx, hb⟩
  have := (blk_lt g.o b hbb).2
  omega
theorem OnS.below (g : OnS w0 W X k h ha hc tm S T oa0 oa oc c n a m lc) (hb : Below X.heap.size X X') : OnS w0 W X' k h ha hc tm S T oa0 oa oc c n a m lc :=
  ⟨g.g.below hb, g.fr.below hb, blk_on g.d hb, g.l, g.ls, g.x, g.xb⟩
theorem OnS.sz (g : OnS w0 W X k h ha hc tm S T oa0 oa oc c n a m lc) : W.heap.size < X.heap.size := (Array.getElem?_eq_some_iff.mp g.d).1
theorem OnS.rep (g : OnS w0 W X k h ha hc tm S T oa0 oa oc c n a m lc) : RepD X k c n a m lc := rep_keepB g.x fun b hb => g.fr.k b (g.xb b hb).2.2 (g.xb b hb).1 (g.xb b hb).1 (g.xb b hb).2.1
theorem OnS.apart (g : OnS w0 W X k h ha hc tm S T oa0 oa oc c n a m lc) : ∀ b ∈ blk a, b ≠ S ∧ b ∉ blk oa ∧ b < X.heap.size := fun b hb => ⟨(g.xb b hb).1, fun q => by
  rcases g.fr.o b q with q | q
  · exact (g.xb b hb).2.1 q
  · have := (g.xb b hb).2.2; omega, by have := (g.xb b hb).2.2; have := g.sz; omega⟩
theorem OnS.call (g : OnS w0 W X k h ha hc tm S T oa0 oa oc c n a m lc) (hg : SdS w0 X' k h ha hc tm S T' oa' oc') (hf : Fr X X' S S oa oa') : OnS w0 W X' k h ha hc tm S T' oa0 oa' oc' c n a m lc := by
  have hsz := g.sz
  have hls := g.ls
  refine ⟨hg, g.fr.trans hf, (hf.k _ hsz (by omega) (by omega) fun q => g.l _ q rfl).trans g.d, fun b hb => ?_, hls, g.x, g.xb⟩
  rcases hf.o b hb with q | q
  · exact g.l b q
  · omega
/-- What on answers, and how it stands then. -/
def SonP (w0 W : World) (k : Int) (h : List Cl) (ha : Option Addr) (hc : Nat) (tm : Bool) (S : Nat) (T : List Tr) (oa : Option Addr) (D : Nat) (c : List Int) (m : Nat) (e : Ending) (W' : World) : Prop :=
  ∃ (T' : List Tr) (oa' : Option Addr) (oc' : Nat), SdS w0 W' k h ha hc tm S T' oa' oc' ∧ Fr W W' S S oa oa' ∧ T'.length + 1 ≤ T.length + 9 ^ (m + 1) ∧ (∀ q ∈ T', fsB k (relT tm) h (fD q.D) q.c = none) ∧
    ((fsB k (relT tm) h (fD D) c = none ∧ e = .returned (.tuple #[.slice none 0 0, .bool false])) ∨ ∃ (r : List Nat) (ra : Option Addr) (rc : Nat), fsB k (relT tm) h (fD D) c = some r ∧ e = .returned (.tuple #[.slice ra r.length rc, .bool true]) ∧ Rows W' 1 ra rc ((asI r).map chCells))
/-- What the rounds of on keep. -/
structure LoD (k : Int) (rel : Cl → Cl → Bool) (h : List Cl) (T : List Tr) (m : Nat) (D : Nat) (c : List Int) (i : Nat) (T' : List Tr) : Prop where
  v : ∀ q ∈ T', fsB k rel h (fD q.D) q.c = none
  fr : fromB k rel h (fD D) c i = fsB k rel h (fD D) c
  n : T'.length ≤ T.length + i * 9 ^ (m + 1)
theorem LoD.start {rel : Cl → Cl → Bool} (hv : ∀ q ∈ T, fsB k rel h (fD q.D) q.c = none) (hw : wholeB h (fD D) = false) : LoD k rel h T m D c 0 T := ⟨hv, (fsB_part hw c).symm, by omega⟩
theorem LoD.skip {rel : Cl → Cl → Bool} {i : Nat} (g : LoD k rel h T m D c i T') (hi : i < h.length) (hs : (mayB rel h (fD D) i && fitC k c (hf h i)) = false) : LoD k rel h T m D c (i + 1) T' :=
  ⟨g.v, (fromB_skip hi hs).symm.trans g.fr, by have := g.n; rw [Nat.succ_mul]; generalize 9 ^ (m + 1) = P at *; omega⟩
theorem LoD.miss {rel : Cl → Cl → Bool} {i : Nat} {T2 : List Tr} (g : LoD k rel h T m D c i T') (hi : i < h.length) (hs : (mayB rel h (fD D) i && fitC k c (hf h i)) = true) (hr : fsB k rel h (fD (D ||| 2 ^ i)) (nxtC k c (hf h i)) = none) (hv : ∀ q ∈ T2, fsB k rel h (fD q.D) q.c = none) (hn : T2.length + 1 ≤ T'.length + 9 ^ (m + 1)) : LoD k rel h T m D c (i + 1) T2 :=
  ⟨hv, (fromB_miss hi hs (by rw [← fD_set]; exact hr)).symm.trans g.fr, by have := g.n; rw [Nat.succ_mul]; generalize 9 ^ (m + 1) = P at *; omega⟩
theorem LoD.hit {rel : Cl → Cl → Bool} {i : Nat} {r : List Nat} (g : LoD k rel h T m D c i T') (hi : i < h.length) (hs : (mayB rel h (fD D) i && fitC k c (hf h i)) = true) (hr : fsB k rel h (fD (D ||| 2 ^ i)) (nxtC k c (hf h i)) = some r) : fsB k rel h (fD D) c = some (i :: r) :=
  g.fr.symm.trans (fromB_hit hi hs (by rw [← fD_set]; exact hr))
theorem LoD.fin {rel : Cl → Cl → Bool} (g : LoD k rel h T m D c h.length T') : fsB k rel h (fD D) c = none := g.fr.symm.trans (fromB_end c)
theorem pow9_le {m i : Nat} (hi : i ≤ 8) : i * 9 ^ (m + 1) + 9 ^ (m + 1) ≤ 9 ^ (m + 1 + 1) := by
  have e : 9 ^ (m + 1 + 1) = 9 * 9 ^ (m + 1) := by rw [Nat.pow_succ, Nat.mul_comm]
  rw [e]
  have := Nat.mul_le_mul_right (9 ^ (m + 1)) hi
  omega
theorem pow9_two (m : Nat) : 2 ≤ 9 ^ (m + 1) := by
  have : 9 ^ 1 ≤ 9 ^ (m + 1) := Nat.pow_le_pow_right (by decide) (by omega)
  omega
theorem SdS.grow {Q Z3 : World} {va : Option Addr} {vc : Nat} (g : OnS w0 W Q k h ha hc tm S T' oa0 oa' oc' c n a m lc) (hg : Grown Q w0.heap.size 110 3 oa' (T'.map Tr.cells) [.int .i64 (D : Int), .int .i64 n, .slice a m lc] va vc Z3) (hc8 : c.length ≤ 8) :
    SdS w0 (Z3.setCell ⟨S, 3, none⟩ (.slice va (T'.length + 1) vc)) k h ha hc tm S (T' ++ [⟨D, c, n, a, m, lc⟩]) va vc ∧ Fr Q (Z3.setCell ⟨S, 3, none⟩ (.slice va (T'.length + 1) vc)) S S oa' va := by
  have hS := g.g.lt
  have hsz := hg.be.size
  have hn2 : S ∉ blk va := fun q => by
    rcases hg.bk S q with q | q
    · exact g.g.n2 q
    · omega
  have hk : ∀ b, b < Q.heap.size → b ≠ S → b ∉ blk oa' → (Z3.setCell ⟨S, 3, none⟩ (.slice va (T'.length + 1) vc)).heap[b]? = Q.heap[b]? := fun b h1 h2 h3 => (heap_setCell_other Z3 ⟨S, 3, none⟩ b _ h2).trans (hg.kp b h1 h3)
  have hnv : ∀ b, b < Q.heap.size → b ∉ blk oa' → b ∉ blk va := fun b h1 h2 q => by
    rcases hg.bk b q with q | q
    · exact h2 q
    · omega
  have hbe : Below w0.heap.size Q Z3 := by
    have := hg.be
    rwa [Nat.min_eq_left g.g.b.size] at this
  have hs3 : (Z3.setCell ⟨S, 3, none⟩ (.slice va (T'.length + 1) vc)).heap[S]? = some (oSd k ha h.length hc tm va (T'.length + 1) vc) := by
    rw [heap_setCell_same Z3 S 3 _ _ _ ((hg.kp S hS g.g.n2).trans g.g.s)]
    rfl
  refine ⟨⟨by rw [hs3, List.length_append, List.length_singleton], ?_, (g.g.b.trans hbe).setCell (p := ⟨S, 3, none⟩) g.g.d1 _, g.g.d1, hn2, fun q hq => ?_, fun q hq b hb => ?_⟩, by rw [World.size_setCell]; exact hsz, fun b h1 h2 _ h4 => hk b h1 h2 h4, hg.bk⟩
  · rw [List.map_append]
    exact own_keep hg.ow fun b hb => heap_setCell_other Z3 ⟨S, 3, none⟩ b _ (fun q => hn2 (by rw [← (show b = S from q)]; exact hb))
  · rcases List.mem_append.mp hq with hq | hq
    · exact ⟨rep_keepB (g.g.r q hq).1 fun b hb => hk b (g.g.bl q hq b hb).2.2 (g.g.bl q hq b hb).1 (g.g.bl q hq b hb).2.1, (g.g.r q hq).2⟩
    · simp at hq
      subst hq
      exact ⟨rep_keepB g.rep fun b hb => hk b (g.apart b hb).2.2 (g.apart b hb).1 (g.apart b hb).2.1, hc8⟩
  · rw [World.size_setCell]
    rcases List.mem_append.mp hq with hq | hq
    · exact ⟨(g.g.bl q hq b hb).1, hnv b (g.g.bl q hq b hb).2.2 (g.g.bl q hq b hb).2.1, by have := (g.g.bl q hq b hb).2.2; omega⟩
    · simp at hq
      subst hq
      exact ⟨(g.apart b hb).1, hnv b (g.apart b hb).2.2 (g.apart b hb).2.1, by have := (g.apart b hb).2.2; omega⟩
end
end Go.Proofs.Ytklpifammbnldaa.pg
/- The document's own search goes on: walked. -/
namespace Go.Proofs.Ytklpifammbnldaa.pg
open Go.ChangeShapes Go.WideShapes Go.ChangeAt Go.RowKit
set_option linter.unusedVariables false
set_option linter.unusedSimpArgs false
set_option maxRecDepth 100000
attribute [local go_sem ↓] Go.wp_at_zero Go.wp_at_succ
theorem shl_run (i : Nat) (hi : i < 8) : ∀ wx, (binOp .shl 3 (.int .i64 1) (.int .i64 (i : Int))).run Try.prog wx = .ok (.int .i64 ((2 ^ i : Nat) : Int)) wx := by
  match i, hi with
  | 0, _ => exact fun _ => by kernel_rfl
  | 1, _ => exact fun _ => by kernel_rfl
  | 2, _ => exact fun _ => by kernel_rfl
  | 3, _ => exact fun _ => by kernel_rfl
  | 4, _ => exact fun _ => by kernel_rfl
  | 5, _ => exact fun _ => by kernel_rfl
  | 6, _ => exact fun _ => by kernel_rfl
  | 7, _ => exact fun _ => by kernel_rfl
theorem or_run (D i : Nat) (hD : D < 256) (hi : i < 8) : ∀ wx, (binOp .or 3 (.int .i64 (D : Int)) (.int .i64 ((2 ^ i : Nat) : Int))).run Try.prog wx = .ok (.int .i64 ((D ||| 2 ^ i : Nat) : Int)) wx := fun wx => by
  rw [← or_at hD hi]
  rfl
theorem bld_sn (D n : Int) (a : Option Addr) (m lc : Nat) : ∀ wx, (Instr.build 110 #[(0, .int .i64 D), (1, .agg #[.int .i64 n, .slice a m lc])]).run Try.prog wx = .ok (.agg #[.int .i64 D, .int .i64 n, .slice a m lc]) wx := fun wx => by kernel_rfl
theorem reg_bldQ {P : Program} {ops : Array Oper} {Q : Exit → Act → World → Prop} {S : World → Prop} {fuel : Nat} {listed : Array Bool} {a : Act} {w : World} {i : Nat} {o : Oper} (ho : ops[i]? = some o) (hs : Region.noSelect ops = true) (hf : Region.free .any ops listed i = true) (hr : (Region.ready .any ops listed).contains i = true)
    (hQ : ∀ c v a w, Q (.panic c) (a.put o.dst v) w → Q (.panic c) a w) (hw : Region.wanted o (yielded ops a.tmps) = true) (t : TypeId) (parts : Array (Nat × Operand)) (hop : o.op = .build t parts) (vs : Array (Nat × Value)) (hp : (parts.map fun (i, x) => (i, a.eval x)) = vs) (v : Value) (hv : ∀ w, (Instr.build t vs).run P w = .ok v w) (hSw : S w)
    (h : wpAnyH P .any ops Q S fuel (listed.setIfInBounds i true) (a.put o.dst v) w) : wpAnyH P .any ops Q S (fuel + 1) listed a w :=
  reg_val ho hs hf hr hQ hw v (fun w _ => by
    unfold execOp
    simp only [hop, hp, Sem.run_bind, Sem.run_pure, Result.andThen_ok, hv]) hSw h
theorem infoSn : (Try.prog.info? 110).map (fun i => (i.zero, i.size, i.bytes)) = some (some (.agg #[.int .i64 0, .int .i64 0, .slice none 0 0]), 3, 40) := by kernel_rfl
theorem own_new1 (Z : World) (i : Int) : OwnL (Z.alloc (.cells #[.int .i64 i] 3)) Z.heap.size 3 1 (some ⟨Z.heap.size, 0, none⟩) 1 [chCells i] :=
  ⟨rfl, .inr ⟨Z.heap.size, 1, #[.int .i64 i], rfl, Nat.le_refl _, heap_alloc_new _ _, Nat.le_refl _, by decide, by first | rfl | decide | simp, by first | rfl | decide | simp⟩⟩
section
variable {w0 W : World} {k : Int} {h : List Cl} {ha : Option Addr} {hc : Nat} {tm : Bool} {S : Nat} {T : List Tr} {oa : Option Addr} {oc : Nat} {c : List Int} {n : Int} {a : Option Addr} {ml lc D : Nat}
set_option maxHeartbeats 4000000 in
theorem on_whole (fu : Nat) (hn : h.length ≤ 8) (hD : D < 256) (hh : Rows w0 7 ha hc (h.map Cl.cells)) (hwh : wholeB h (fD D) = true) (hg : SdS w0 W k h ha hc tm S T oa oc) (hv : ∀ q ∈ T, fsB k (relT tm) h (fD q.D) q.c = none) : Calls Try.prog 32 #[.pointer (some ⟨S, 0, none⟩), .int .i64 (D : Int), .agg #[.int .i64 n, .slice a ml lc]] W (SonP w0 W k h ha hc tm S T oa D c fu) := by
  have hX : Hid (SdS w0 (W.alloc (oDg n a ml lc)) k h ha hc tm S T oa oc) := hg.below (boxed _ _)
  have hfr : Hid (Fr W (W.alloc (oDg n a ml lc)) S S oa oa) := Fr.refl.below (boxed _ _)
  have cW := rwhole_any (D := D) hX.out.s (hh.later hX.out.b) hn hD
  rw [hwh] at cW
  have e : Hid (fsB k (relT tm) h (fD D) c = some []) := fsB_whole hwh c
  have hvH : Hid (∀ q ∈ T, fsB k (relT tm) h (fD q.D) q.c = none) := hv
  clear hg hh hwh hv
  go_enter Try.func32, Try.ntmps32
  go_wp2_with (first
    | (go_at_call 48; (with_reducible refine cW.mono ?_); rintro e w1 ⟨rfl, rfl⟩))
  go_ret2
  exact ⟨T, oa, oc, hX.out, hfr.out, by have := pow9 fu; omega, hvH.out, .inr ⟨[], none, 0, e.out, rfl, ⟨Nat.le_refl _, by decide, fun _ => ⟨rfl, rfl⟩, .inl rfl⟩⟩⟩
set_option maxHeartbeats 16000000 in
theorem on_part (fu : Nat) (hnn : h.length ≤ 8) (hD : D < 256) (hRi : RightH k h) (hcd : closD (relT tm) h (fD D)) (hrd : RelD (relT tm) h) (hh : Rows w0 7 ha hc (h.map Cl.cells)) (hwh : wholeB h (fD D) = false) (hInv' : InvC k c (cntD (fD D) h.length)) (hlt8 : cntD (fD D) h.length < 8) (hg : SdS w0 W k h ha hc tm S T oa oc) (hv : ∀ q ∈ T, fsB k (relT tm) h (fD q.D) q.c = none) (hN' : T.length + 9 ^ (fu + 1 + 1) ≤ 2 ^ 40) (hx : RepD W k c n a ml lc) (hxb : ∀ b ∈ blk a, b ≠ S ∧ b ∉ blk oa ∧ b < W.heap.size)
    (hih : ∀ (i : Nat) (X : World) (T' : List Tr) (oa' : Option Addr) (oc' : Nat) (n' : Int) (a' : Option Addr) (m' lc' : Nat), i < h.length → mayB (relT tm) h (fD D) i = true → fitC k c (hf h i) = true → SdS w0 X k h ha hc tm S T' oa' oc' → RepD X k (nxtC k c (hf h i)) n' a' m' lc' → (∀ b ∈ blk a', b ≠ S ∧ b ∉ blk oa' ∧ b < X.heap.size) → (∀ q ∈ T', fsB k (relT tm) h (fD q.D) q.c = none) → T'.length + 9 ^ (fu + 1) ≤ 2 ^ 40 → Calls Try.prog 32 #[.pointer (some ⟨S, 0, none⟩), .int .i64 ((D ||| 2 ^ i : Nat) : Int), .agg #[.int .i64 n', .slice a' m' lc']] X (SonP w0 X k h ha hc tm S T' oa' (D ||| 2 ^ i) (nxtC k c (hf h i)) fu)) :
    Calls Try.prog 32 #[.pointer (some ⟨S, 0, none⟩), .int .i64 (D : Int), .agg #[.int .i64 n, .slice a ml lc]] W (SonP w0 W k h ha hc tm S T oa D c (fu + 1)) := by
  have hIH : Hid _ := hih
  have hR : Hid (RightH k h) := hRi
  have hInv : Hid (InvC k c (cntD (fD D) h.length)) := hInv'
  have hct : Hid (cntD (fD D) h.length < 8) := hlt8
  have hvT : Hid (∀ q ∈ T, fsB k (relT tm) h (fD q.D) q.c = none) := hv
  have hNN : Hid (T.length + 9 ^ (fu + 1 + 1) ≤ 2 ^ 40) := hN'
  have hD8 : Hid (D < 256) := hD
  have hn8 : Hid (h.length ≤ 8) := hnn
  have hnI : (h.length : Int) ≤ 8 := by omega
  have hTI : (T.length : Int) ≤ 1099511627776 := by
    have := hN'
    generalize 9 ^ (fu + 1 + 1) = P at *
    omega
  have hhH : Hid (Rows w0 7 ha hc (h.map Cl.cells)) := hh
  have hwF : Hid (wholeB h (fD D) = false) := hwh
  have hcl8 : Hid (c.length ≤ 8) := inv_le hInv' hRi.kd (by omega)
  have huX : Hid (Try.prog.underlying 53 = _) := Try.underlying53
  have huD : Hid (Try.prog.underlying TD6 = _) := Try.underlying75
  have hmE : Hid (∀ i, i < h.length → mayR (relT tm) h (fD D) i = mayB (relT tm) h (fD D) i) := fun i hi => mayR_eq hrd hcd hi
  obtain ⟨iN, hiN', hzN', hsN', hbN'⟩ := info_q infoNl
  have hiN : Hid (Try.prog.info? 3 = some iN) := hiN'
  have hzN : Hid _ := hzN'
  have hsN : Hid _ := hsN'
  have hbN : Hid _ := hbN'
  obtain ⟨iS, hiS', hzS', hsS', hbS'⟩ := info_q infoSn
  have hiS : Hid (Try.prog.info? 110 = some iS) := hiS'
  have hzS : Hid _ := hzS'
  have hsS : Hid _ := hsS'
  have hbS : Hid _ := hbS'
  have hO0 : Hid (OnS w0 W (W.alloc (oDg n a ml lc)) k h ha hc tm S T oa oa oc c n a ml lc) := OnS.start hg hx hxb
  have cW := rwhole_any (D := D) hO0.out.g.s (hhH.out.later hO0.out.g.b) hnn hD
  rw [hwh] at cW
  clear hih hRi hInv' hlt8 hv hN' hD hnn hh hwh hg hx hxb hiN' hzN' hsN' hbN' hiS' hzS' hsS' hbS' hcd hrd
  go_enter Try.func32, Try.ntmps32
  go_upto_region 1 with fail
  obtain ⟨X0, hX0⟩ : ∃ X0, W.alloc (oDg n a ml lc) = X0 := ⟨_, rfl⟩
  rw [hX0] at hO0 cW ⊢
  clear hX0
  go_wp2_with (first
    | (go_at_call 48; (with_reducible refine cW.mono ?_); rintro e w1 ⟨rfl, rfl⟩))
  go_loopw [8] (fun u wr => ∃ j : Nat, j ≤ T.length ∧ u = .int .i64 (j : Int) ∧ Hid (OnS w0 W wr k h ha hc tm S T oa oa oc c n a ml lc) ∧ Hid (∀ q ∈ T.take j, ¬ (q.D = D ∧ q.c = c))) (fun u _ => T.length - (intOf u).toNat)
  case atStart => exact ⟨0, Nat.zero_le _, rfl, hO0, fun q hq => by simp at hq⟩
  case round =>
    obtain ⟨j, hj, rfl, hO, hst⟩ := hrel
    clear hO0 cW
    by_cases hlt : j < T.length
    · have hjI : (j : Int) < T.length := by omega
      obtain ⟨q, hq⟩ : ∃ q, T[j]? = some q := ⟨_, List.getElem?_eq_getElem hlt⟩
      have hqH : Hid (T[j]? = some q) := hq
      obtain ⟨b1, o1, x1, hl1, r1⟩ := seen_ix hO.out.g.rows hq
      have r1H : Hid (wr.rangeAt b1 o1 q.cells ∧ b1 < wr.heap.size) := ⟨r1, hl1⟩
      have hqr := hO.out.g.r q (List.mem_of_getElem? hq)
      obtain ⟨l, l', hm, hm', hl, hl', he⟩ := rep_same hqr.1 hO.out.rep
      clear hq r1 hl1
      obtain ⟨-, -, -, k3⟩ := sd_cells hO.out.g.s
      go_upto_region 6 with fail
      clear k3
      by_cases heqd : q.D = D
      · have heq : Hid (q.D = D) := heqd
        have hdd : Hid (((q.D : Int) == (D : Int)) = true) := by (show _ = _; rw [heqd]; simp)
        obtain ⟨sb, hsb'⟩ : ∃ sb : Bool, sb = true ↔ q.c = c := ⟨decide (q.c = c), by simp⟩
        have hsb : Hid (sb = true ↔ q.c = c) := hsb'
        have hlen : l.length ≤ 8 ∧ l'.length ≤ 8 := by
          have h1 := hqr.2
          have h2 := hcl8.out
          constructor
          · rcases hqr.1 with ⟨_, _, _, z, _⟩ | ⟨_, _, z, _⟩ <;> omega
          · rcases hO.out.rep with ⟨_, _, _, z, _⟩ | ⟨_, _, z, _⟩ <;> omega
        have cSm : Hid (∀ wx, Below wr.heap.size wr wx → Calls Try.prog 49 #[.agg #[.int .i64 q.n, .slice q.a q.m q.lc], .agg #[.int .i64 n, .slice a ml lc]] wx fun e w' => e = .returned (.bool sb) ∧ Below wx.heap.size wx w') := fun wx z => by
          rw [hm, hm']
          exact rsame_th l l' q.n n q.a a q.lc lc (hl.later z) (hl'.later z) (by omega) (by omega) sb (hsb'.trans he.symm)
        have hR1 : Hid (∀ w' : World, w'.rangeAt b1 o1 q.cells → w'.rangeAt b1 (o1 + 1) [.int .i64 q.n, .slice q.a q.m q.lc]) := fun w' z j v hj => by
          rw [Nat.add_assoc]
          exact z (1 + j) v (by rw [Nat.add_comm]; exact hj)
        clear hm hm' hl hl' he hsb' hlen hqr heqd
        have hS : Hid (Below wr.heap.size wr wr.drew) := bey_drew wr
        have hRd : Hid (∀ w', Below wr.heap.size wr w' → w'.cell? ⟨S, 3, none⟩ = some (.slice oa T.length oc) ∧ w'.rangeAt b1 o1 q.cells ∧ w'.rangeAt W.heap.size 0 [.int .i64 n, .slice a ml lc]) := fun w' z => ⟨(sd_cells (hO.out.below z).g.s).2.2.2, range_blk r1H.out.1 (z.block _ r1H.out.2), rng_blk (hO.out.below z).d⟩
        refine wp_region_noPanic ?_
        refine wp_region_held_drew (S := fun w' => Below wr.heap.size wr w') (by kernel_rfl) hS.out (fun _ => ?_)
        refine reg_move (i := 0) rfl (by kernel_rfl) (by kernel_rfl) (by kernel_rfl) (fun _ _ _ _ h => h) rfl (.pointer (some ⟨S, 0, none⟩)) (fun _ => rfl) hS.out ?_
        simp only [Act.put, List.getElem_toArray, List.getElem_cons_succ, List.getElem_cons_zero, List.setIfInBounds_toArray, List.set_cons_zero, List.set_cons_succ]
        refine reg_move (i := 1) rfl (by kernel_rfl) (by kernel_rfl) (by kernel_rfl) (fun _ _ _ _ h => h) rfl (.pointer (some ⟨S, 0, none⟩)) (fun _ => rfl) hS.out ?_
        simp only [Act.put, List.getElem_toArray, List.getElem_cons_succ, List.getElem_cons_zero, List.setIfInBounds_toArray, List.set_cons_zero, List.set_cons_succ]
        refine reg_move (i := 2) rfl (by kernel_rfl) (by kernel_rfl) (by kernel_rfl) (fun _ _ _ _ h => h) rfl (.pointer (some ⟨S, 3, none⟩)) (fun _ => rfl) hS.out ?_
        simp only [Act.put, List.getElem_toArray, List.getElem_cons_succ, List.getElem_cons_zero, List.setIfInBounds_toArray, List.set_cons_zero, List.set_cons_succ]
        refine reg_load1 (i := 3) rfl (by kernel_rfl) (by kernel_rfl) (by kernel_rfl) (fun _ _ _ _ h => h) rfl 70 _ rfl ⟨S, 3, none⟩ rfl _ Try.underlying70 rfl (.slice oa T.length oc) (fun w' z => (hRd.out w' z).1) hS.out ?_
        simp only [Act.put, List.getElem_toArray, List.getElem_cons_succ, List.getElem_cons_zero, List.setIfInBounds_toArray, List.set_cons_zero, List.set_cons_succ]
        refine reg_move (i := 4) rfl (by kernel_rfl) (by kernel_rfl) (by kernel_rfl) (fun _ _ _ _ h => h) rfl (.int .i64 (j : Int)) (fun _ => rfl) hS.out ?_
        simp only [Act.put, List.getElem_toArray, List.getElem_cons_succ, List.getElem_cons_zero, List.setIfInBounds_toArray, List.set_cons_zero, List.set_cons_succ]
        refine reg_move (i := 5) rfl (by kernel_rfl) (by kernel_rfl) (by kernel_rfl) (fun _ _ _ _ h => h) rfl (.pointer (some ⟨b1, o1, none⟩)) (fun wx => by unfold execOp; exact run_value_of (x1 wx)) hS.out ?_
        simp only [Act.put, List.getElem_toArray, List.getElem_cons_succ, List.getElem_cons_zero, List.setIfInBounds_toArray, List.set_cons_zero, List.set_cons_succ]
        refine reg_move (i := 6) rfl (by kernel_rfl) (by kernel_rfl) (by kernel_rfl) (fun _ _ _ _ h => h) rfl (.pointer (some ⟨b1, o1 + 0, none⟩)) (fun _ => rfl) hS.out ?_
        simp only [Act.put, List.getElem_toArray, List.getElem_cons_succ, List.getElem_cons_zero, List.setIfInBounds_toArray, List.set_cons_zero, List.set_cons_succ]
        refine reg_load1 (i := 7) rfl (by kernel_rfl) (by kernel_rfl) (by kernel_rfl) (fun _ _ _ _ h => h) rfl 3 _ rfl ⟨b1, o1 + 0, none⟩ rfl _ Try.underlying3 rfl (.int .i64 (q.D : Int)) (fun w' z => (hRd.out w' z).2.1 0 _ rfl) hS.out ?_
        simp only [Act.put, List.getElem_toArray, List.getElem_cons_succ, List.getElem_cons_zero, List.setIfInBounds_toArray, List.set_cons_zero, List.set_cons_succ]
        refine reg_move (i := 8) rfl (by kernel_rfl) (by kernel_rfl) (by kernel_rfl) (fun _ _ _ _ h => h) rfl (.int .i64 (D : Int)) (fun _ => rfl) hS.out ?_
        simp only [Act.put, List.getElem_toArray, List.getElem_cons_succ, List.getElem_cons_zero, List.setIfInBounds_toArray, List.set_cons_zero, List.set_cons_succ]
        refine reg_move (i := 9) rfl (by kernel_rfl) (by kernel_rfl) (by kernel_rfl) (fun _ _ _ _ h => h) rfl (.bool ((q.D : Int) == (D : Int))) (fun _ => rfl) hS.out ?_
        simp only [Act.put, List.getElem_toArray, List.getElem_cons_succ, List.getElem_cons_zero, List.setIfInBounds_toArray, List.set_cons_zero, List.set_cons_succ]
        rw [hdd.out]
        refine reg_move (i := 10) rfl (by kernel_rfl) (by kernel_rfl) (by kernel_rfl) (fun _ _ _ _ h => h) rfl (.bool true) (fun _ => rfl) hS.out ?_
        simp only [Act.put, List.getElem_toArray, List.getElem_cons_succ, List.getElem_cons_zero, List.setIfInBounds_toArray, List.set_cons_zero, List.set_cons_succ]
        refine reg_move (i := 11) rfl (by kernel_rfl) (by kernel_rfl) (by kernel_rfl) (fun _ _ _ _ h => h) rfl (.pointer (some ⟨S, 0, none⟩)) (fun _ => rfl) hS.out ?_
        simp only [Act.put, List.getElem_toArray, List.getElem_cons_succ, List.getElem_cons_zero, List.setIfInBounds_toArray, List.set_cons_zero, List.set_cons_succ]
        refine reg_move (i := 12) rfl (by kernel_rfl) (by kernel_rfl) (by kernel_rfl) (fun _ _ _ _ h => h) rfl (.pointer (some ⟨S, 0, none⟩)) (fun _ => rfl) hS.out ?_
        simp only [Act.put, List.getElem_toArray, List.getElem_cons_succ, List.getElem_cons_zero, List.setIfInBounds_toArray, List.set_cons_zero, List.set_cons_succ]
        refine reg_move (i := 13) rfl (by kernel_rfl) (by kernel_rfl) (by kernel_rfl) (fun _ _ _ _ h => h) rfl (.pointer (some ⟨S, 3, none⟩)) (fun _ => rfl) hS.out ?_
        simp only [Act.put, List.getElem_toArray, List.getElem_cons_succ, List.getElem_cons_zero, List.setIfInBounds_toArray, List.set_cons_zero, List.set_cons_succ]
        refine reg_load1 (i := 14) rfl (by kernel_rfl) (by kernel_rfl) (by kernel_rfl) (fun _ _ _ _ h => h) rfl 70 _ rfl ⟨S, 3, none⟩ rfl _ Try.underlying70 rfl (.slice oa T.length oc) (fun w' z => (hRd.out w' z).1) hS.out ?_
        simp only [Act.put, List.getElem_toArray, List.getElem_cons_succ, List.getElem_cons_zero, List.setIfInBounds_toArray, List.set_cons_zero, List.set_cons_succ]
        refine reg_move (i := 15) rfl (by kernel_rfl) (by kernel_rfl) (by kernel_rfl) (fun _ _ _ _ h => h) rfl (.int .i64 (j : Int)) (fun _ => rfl) hS.out ?_
        simp only [Act.put, List.getElem_toArray, List.getElem_cons_succ, List.getElem_cons_zero, List.setIfInBounds_toArray, List.set_cons_zero, List.set_cons_succ]
        refine reg_move (i := 16) rfl (by kernel_rfl) (by kernel_rfl) (by kernel_rfl) (fun _ _ _ _ h => h) rfl (.pointer (some ⟨b1, o1, none⟩)) (fun wx => by unfold execOp; exact run_value_of (x1 wx)) hS.out ?_
        simp only [Act.put, List.getElem_toArray, List.getElem_cons_succ, List.getElem_cons_zero, List.setIfInBounds_toArray, List.set_cons_zero, List.set_cons_succ]
        refine reg_move (i := 17) rfl (by kernel_rfl) (by kernel_rfl) (by kernel_rfl) (fun _ _ _ _ h => h) rfl (.pointer (some ⟨b1, o1 + 1, none⟩)) (fun _ => rfl) hS.out ?_
        simp only [Act.put, List.getElem_toArray, List.getElem_cons_succ, List.getElem_cons_zero, List.setIfInBounds_toArray, List.set_cons_zero, List.set_cons_succ]
        refine reg_load (i := 18) rfl (by kernel_rfl) (by kernel_rfl) (by kernel_rfl) (fun _ _ _ _ h => h) rfl TD6 _ rfl b1 (o1 + 1) rfl [.int .i64 q.n, .slice q.a q.m q.lc] _ (fun w' z => hR1.out _ (hRd.out w' z).2.1) Try.underlying75 rfl infoDg hS.out ?_
        simp only [Act.put, List.getElem_toArray, List.getElem_cons_succ, List.getElem_cons_zero, List.setIfInBounds_toArray, List.set_cons_zero, List.set_cons_succ]
        refine reg_load (i := 19) rfl (by kernel_rfl) (by kernel_rfl) (by kernel_rfl) (fun _ _ _ _ h => h) rfl TD6 _ rfl W.heap.size 0 rfl [.int .i64 n, .slice a ml lc] _ (fun w' z => (hRd.out w' z).2.2) Try.underlying75 rfl infoDg hS.out ?_
        simp only [Act.put, List.getElem_toArray, List.getElem_cons_succ, List.getElem_cons_zero, List.setIfInBounds_toArray, List.set_cons_zero, List.set_cons_succ]
        refine reg_call2 (i := 20) (by kernel_rfl) rfl rfl 49 _ _ _ _ rfl (.agg #[.int .i64 q.n, .slice q.a q.m q.lc]) (.agg #[.int .i64 n, .slice a ml lc]) rfl rfl (cf_fn Try.func49 (by kernel_rfl) (by kernel_rfl) _ _) _ (cSm.out _ hS.out) ?_
        rintro e1 X1 ⟨rfl, hb1⟩
        have hb2 : Hid (Below wr.heap.size wr X1) := bthen hS.out hb1
        refine ⟨_, rfl, hb2.out, fun _ => ?_⟩
        simp only [Act.put, List.getElem_toArray, List.getElem_cons_succ, List.getElem_cons_zero, List.setIfInBounds_toArray, List.set_cons_zero, List.set_cons_succ]
        refine reg_move (i := 21) rfl (by kernel_rfl) (by kernel_rfl) (by kernel_rfl) (fun _ _ _ _ h => h) rfl (.bool sb) (fun _ => rfl) hb2.out ?_
        simp only [Act.put, List.getElem_toArray, List.getElem_cons_succ, List.getElem_cons_zero, List.setIfInBounds_toArray, List.set_cons_zero, List.set_cons_succ]
        refine wpAnyH_done (by kernel_rfl) (NoPanic.normal ?_) _
        have hO9 : Hid (OnS w0 W X1 k h ha hc tm S T oa oa oc c n a ml lc) := hO.out.below hb2.out
        clear hRd hS hO r1H x1 hb1 hb2 cSm
        cases sb with
        | true =>
          have e : Hid (fsB k (relT tm) h (fD D) c = none) := by
            have := hvT.out q (List.mem_of_getElem? hqH.out)
            rw [hsb.out.mp rfl, heq.out] at this
            exact this
          go_wp2
          go_ret2
          exact ⟨T, oa, oc, hO9.out.g, hO9.out.fr, by have := pow9 (fu + 1); omega, hvT.out, .inl ⟨e.out, rfl⟩⟩
        | false =>
          go_wp2
          go_roundw
          case rel => exact ⟨j + 1, by omega, by go_num, hO9, fun z hz => by
            rw [List.take_add_one, List.mem_append] at hz
            rcases hz with hz | hz
            · exact hst.out z hz
            · rw [hqH.out] at hz
              simp at hz
              subst hz
              exact fun y => by
                have := hsb.out.mpr y.2
                cases this⟩
          case measure => simp [intOf]; omega
      · have hne : Hid (¬ q.D = D) := heqd
        have hdd : Hid (((q.D : Int) == (D : Int)) = false) := by (show _ = _; rw [beq_eq_false_iff_ne]; omega)
        clear hm hm' hl hl' he hqr heqd
        have hS : Hid (Below wr.heap.size wr wr.drew) := bey_drew wr
        have hRd : Hid (∀ w', Below wr.heap.size wr w' → w'.cell? ⟨S, 3, none⟩ = some (.slice oa T.length oc) ∧ w'.rangeAt b1 o1 q.cells ∧ w'.rangeAt W.heap.size 0 [.int .i64 n, .slice a ml lc]) := fun w' z => ⟨(sd_cells (hO.out.below z).g.s).2.2.2, range_blk r1H.out.1 (z.block _ r1H.out.2), rng_blk (hO.out.below z).d⟩
        refine wp_region_noPanic ?_
        refine wp_region_held_drew (S := fun w' => Below wr.heap.size wr w') (by kernel_rfl) hS.out (fun _ => ?_)
        refine reg_move (i := 0) rfl (by kernel_rfl) (by kernel_rfl) (by kernel_rfl) (fun _ _ _ _ h => h) rfl (.pointer (some ⟨S, 0, none⟩)) (fun _ => rfl) hS.out ?_
        simp only [Act.put, List.getElem_toArray, List.getElem_cons_succ, List.getElem_cons_zero, List.setIfInBounds_toArray, List.set_cons_zero, List.set_cons_succ]
        refine reg_move (i := 1) rfl (by kernel_rfl) (by kernel_rfl) (by kernel_rfl) (fun _ _ _ _ h => h) rfl (.pointer (some ⟨S, 0, none⟩)) (fun _ => rfl) hS.out ?_
        simp only [Act.put, List.getElem_toArray, List.getElem_cons_succ, List.getElem_cons_zero, List.setIfInBounds_toArray, List.set_cons_zero, List.set_cons_succ]
        refine reg_move (i := 2) rfl (by kernel_rfl) (by kernel_rfl) (by kernel_rfl) (fun _ _ _ _ h => h) rfl (.pointer (some ⟨S, 3, none⟩)) (fun _ => rfl) hS.out ?_
        simp only [Act.put, List.getElem_toArray, List.getElem_cons_succ, List.getElem_cons_zero, List.setIfInBounds_toArray, List.set_cons_zero, List.set_cons_succ]
        refine reg_load1 (i := 3) rfl (by kernel_rfl) (by kernel_rfl) (by kernel_rfl) (fun _ _ _ _ h => h) rfl 70 _ rfl ⟨S, 3, none⟩ rfl _ Try.underlying70 rfl (.slice oa T.length oc) (fun w' z => (hRd.out w' z).1) hS.out ?_
        simp only [Act.put, List.getElem_toArray, List.getElem_cons_succ, List.getElem_cons_zero, List.setIfInBounds_toArray, List.set_cons_zero, List.set_cons_succ]
        refine reg_move (i := 4) rfl (by kernel_rfl) (by kernel_rfl) (by kernel_rfl) (fun _ _ _ _ h => h) rfl (.int .i64 (j : Int)) (fun _ => rfl) hS.out ?_
        simp only [Act.put, List.getElem_toArray, List.getElem_cons_succ, List.getElem_cons_zero, List.setIfInBounds_toArray, List.set_cons_zero, List.set_cons_succ]
        refine reg_move (i := 5) rfl (by kernel_rfl) (by kernel_rfl) (by kernel_rfl) (fun _ _ _ _ h => h) rfl (.pointer (some ⟨b1, o1, none⟩)) (fun wx => by unfold execOp; exact run_value_of (x1 wx)) hS.out ?_
        simp only [Act.put, List.getElem_toArray, List.getElem_cons_succ, List.getElem_cons_zero, List.setIfInBounds_toArray, List.set_cons_zero, List.set_cons_succ]
        refine reg_move (i := 6) rfl (by kernel_rfl) (by kernel_rfl) (by kernel_rfl) (fun _ _ _ _ h => h) rfl (.pointer (some ⟨b1, o1 + 0, none⟩)) (fun _ => rfl) hS.out ?_
        simp only [Act.put, List.getElem_toArray, List.getElem_cons_succ, List.getElem_cons_zero, List.setIfInBounds_toArray, List.set_cons_zero, List.set_cons_succ]
        refine reg_load1 (i := 7) rfl (by kernel_rfl) (by kernel_rfl) (by kernel_rfl) (fun _ _ _ _ h => h) rfl 3 _ rfl ⟨b1, o1 + 0, none⟩ rfl _ Try.underlying3 rfl (.int .i64 (q.D : Int)) (fun w' z => (hRd.out w' z).2.1 0 _ rfl) hS.out ?_
        simp only [Act.put, List.getElem_toArray, List.getElem_cons_succ, List.getElem_cons_zero, List.setIfInBounds_toArray, List.set_cons_zero, List.set_cons_succ]
        refine reg_move (i := 8) rfl (by kernel_rfl) (by kernel_rfl) (by kernel_rfl) (fun _ _ _ _ h => h) rfl (.int .i64 (D : Int)) (fun _ => rfl) hS.out ?_
        simp only [Act.put, List.getElem_toArray, List.getElem_cons_succ, List.getElem_cons_zero, List.setIfInBounds_toArray, List.set_cons_zero, List.set_cons_succ]
        refine reg_move (i := 9) rfl (by kernel_rfl) (by kernel_rfl) (by kernel_rfl) (fun _ _ _ _ h => h) rfl (.bool ((q.D : Int) == (D : Int))) (fun _ => rfl) hS.out ?_
        simp only [Act.put, List.getElem_toArray, List.getElem_cons_succ, List.getElem_cons_zero, List.setIfInBounds_toArray, List.set_cons_zero, List.set_cons_succ]
        rw [hdd.out]
        refine reg_move (i := 10) rfl (by kernel_rfl) (by kernel_rfl) (by kernel_rfl) (fun _ _ _ _ h => h) rfl (.bool false) (fun _ => rfl) hS.out ?_
        simp only [Act.put, List.getElem_toArray, List.getElem_cons_succ, List.getElem_cons_zero, List.setIfInBounds_toArray, List.set_cons_zero, List.set_cons_succ]
        refine reg_skipL (i := 11) rfl (by kernel_rfl) (by kernel_rfl) (by kernel_rfl) (fun _ _ _ _ h => h) rfl hS.out ?_
        simp only [Act.put, List.getElem_toArray, List.getElem_cons_succ, List.getElem_cons_zero, List.setIfInBounds_toArray, List.set_cons_zero, List.set_cons_succ]
        refine reg_skipL (i := 12) rfl (by kernel_rfl) (by kernel_rfl) (by kernel_rfl) (fun _ _ _ _ h => h) rfl hS.out ?_
        simp only [Act.put, List.getElem_toArray, List.getElem_cons_succ, List.getElem_cons_zero, List.setIfInBounds_toArray, List.set_cons_zero, List.set_cons_succ]
        refine reg_skipL (i := 13) rfl (by kernel_rfl) (by kernel_rfl) (by kernel_rfl) (fun _ _ _ _ h => h) rfl hS.out ?_
        simp only [Act.put, List.getElem_toArray, List.getElem_cons_succ, List.getElem_cons_zero, List.setIfInBounds_toArray, List.set_cons_zero, List.set_cons_succ]
        refine reg_skipL (i := 14) rfl (by kernel_rfl) (by kernel_rfl) (by kernel_rfl) (fun _ _ _ _ h => h) rfl hS.out ?_
        simp only [Act.put, List.getElem_toArray, List.getElem_cons_succ, List.getElem_cons_zero, List.setIfInBounds_toArray, List.set_cons_zero, List.set_cons_succ]
        refine reg_skipL (i := 15) rfl (by kernel_rfl) (by kernel_rfl) (by kernel_rfl) (fun _ _ _ _ h => h) rfl hS.out ?_
        simp only [Act.put, List.getElem_toArray, List.getElem_cons_succ, List.getElem_cons_zero, List.setIfInBounds_toArray, List.set_cons_zero, List.set_cons_succ]
        refine reg_skipL (i := 16) rfl (by kernel_rfl) (by kernel_rfl) (by kernel_rfl) (fun _ _ _ _ h => h) rfl hS.out ?_
        simp only [Act.put, List.getElem_toArray, List.getElem_cons_succ, List.getElem_cons_zero, List.setIfInBounds_toArray, List.set_cons_zero, List.set_cons_succ]
        refine reg_skipL (i := 17) rfl (by kernel_rfl) (by kernel_rfl) (by kernel_rfl) (fun _ _ _ _ h => h) rfl hS.out ?_
        simp only [Act.put, List.getElem_toArray, List.getElem_cons_succ, List.getElem_cons_zero, List.setIfInBounds_toArray, List.set_cons_zero, List.set_cons_succ]
        refine reg_skipL (i := 18) rfl (by kernel_rfl) (by kernel_rfl) (by kernel_rfl) (fun _ _ _ _ h => h) rfl hS.out ?_
        simp only [Act.put, List.getElem_toArray, List.getElem_cons_succ, List.getElem_cons_zero, List.setIfInBounds_toArray, List.set_cons_zero, List.set_cons_succ]
        refine reg_skipL (i := 19) rfl (by kernel_rfl) (by kernel_rfl) (by kernel_rfl) (fun _ _ _ _ h => h) rfl hS.out ?_
        simp only [Act.put, List.getElem_toArray, List.getElem_cons_succ, List.getElem_cons_zero, List.setIfInBounds_toArray, List.set_cons_zero, List.set_cons_succ]
        refine reg_skipL (i := 20) rfl (by kernel_rfl) (by kernel_rfl) (by kernel_rfl) (fun _ _ _ _ h => h) rfl hS.out ?_
        simp only [Act.put, List.getElem_toArray, List.getElem_cons_succ, List.getElem_cons_zero, List.setIfInBounds_toArray, List.set_cons_zero, List.set_cons_succ]
        refine reg_move (i := 21) rfl (by kernel_rfl) (by kernel_rfl) (by kernel_rfl) (fun _ _ _ _ h => h) rfl (.bool false) (fun _ => rfl) hS.out ?_
        simp only [Act.put, List.getElem_toArray, List.getElem_cons_succ, List.getElem_cons_zero, List.setIfInBounds_toArray, List.set_cons_zero, List.set_cons_succ]
        refine wpAnyH_done (by kernel_rfl) (NoPanic.normal ?_) _
        have hO9 : Hid (OnS w0 W wr.drew k h ha hc tm S T oa oa oc c n a ml lc) := hO.out.below hS.out
        clear hRd hS hO r1H x1
        go_wp2
        go_roundw
        case rel => exact ⟨j + 1, by omega, by go_num, hO9, fun z hz => by
          rw [List.take_add_one, List.mem_append] at hz
          rcases hz with hz | hz
          · exact hst.out z hz
          · rw [hqH.out] at hz
            simp at hz
            subst hz
            exact fun y => hne.out y.1⟩
        case measure => simp [intOf]; omega
    · have hje : j = T.length := by omega
      have hjI : ¬ (j : Int) < T.length := by omega
      obtain ⟨-, -, -, k3⟩ := sd_cells hO.out.g.s
      clear hst
      go_wp2_with fail
      go_loopw [9] (fun u wr => ∃ i : Nat, i ≤ h.length ∧ u = .int .i64 (i : Int) ∧ Hid (∃ (T' : List Tr) (oa' : Option Addr) (oc' : Nat), OnS w0 W wr k h ha hc tm S T' oa oa' oc' c n a ml lc ∧ LoD k (relT tm) h T fu D c i T')) (fun u _ => h.length - (intOf u).toNat)
      case atStart => exact ⟨0, Nat.zero_le _, rfl, T, oa, oc, hO.out, LoD.start hvT.out hwF.out⟩
      case round =>
        obtain ⟨i, hi, rfl, hst⟩ := hrel
        obtain ⟨T', oa', oc', hO2, hL2⟩ := hst.out
        clear hO hst k3
        have hO : Hid (OnS w0 W wr k h ha hc tm S T' oa oa' oc' c n a ml lc) := hO2
        have hL : Hid (LoD k (relT tm) h T fu D c i T') := hL2
        clear hO2 hL2
        obtain ⟨-, k1, -, -⟩ := sd_cells hO.out.g.s
        by_cases hlt : i < h.length
        · have hiI : (i : Int) < h.length := by omega
          have cM := rmay_any (D := D) hO.out.g.s (hhH.out.later hO.out.g.b) hn8.out hD8.out hlt
          rw [hmE.out i hlt] at cM
          obtain ⟨d, hd⟩ : ∃ d, mayB (relT tm) h (fD D) i = d := ⟨_, rfl⟩
          have hdH : Hid (mayB (relT tm) h (fD D) i = d) := hd
          rw [hd] at cM
          clear hd
          cases d with
          | false =>
            have hL5 : Hid (LoD k (relT tm) h T fu D c (i + 1) T') := hL.out.skip hlt (by rw [hdH.out, Bool.false_and])
            clear hL
            go_wp2_with (first
              | (go_at_call 50; (with_reducible refine cM.mono ?_); rintro e w1 ⟨rfl, hb⟩; (have hO9 : Hid (OnS w0 W w1 k h ha hc tm S T' oa oa' oc' c n a ml lc) := hO.out.below hb); clear hb cM k1 hO))
            go_roundw
            case rel => exact ⟨i + 1, by omega, by go_num, T', oa', oc', hO9.out, hL5.out⟩
            case measure => simp [intOf]; omega
          | true =>
            go_upto_region 12 with (first
              | (go_at_call 50; (with_reducible refine cM.mono ?_); rintro e w1 ⟨rfl, hb⟩; (have hO9 : Hid (OnS w0 W w1 k h ha hc tm S T' oa oa' oc' c n a ml lc) := hO.out.below hb); clear hb cM k1 hO))
            have hO : Hid (OnS w0 W w1 k h ha hc tm S T' oa oa' oc' c n a ml lc) := hO9.out
            clear hO9
            generalize w1 = wr at *
            obtain ⟨b3, o3, x3, hl3, r3⟩ := cl_ix (hhH.out.later hO.out.g.b) hlt
            have hXD : Hid (doesB k (hf h i).d = true ∧ rcB (hf h i) = true ∧ OkC k (hf h i).d c) := ⟨(hR.out.c _ (hf_mem hlt)).1, (hR.out.c _ (hf_mem hlt)).2, inv_ok hInv.out hR.out.kd hct.out (hR.out.c _ (hf_mem hlt)).1⟩
            obtain ⟨x, hx⟩ : ∃ x, hf h i = x := ⟨_, rfl⟩
            have hxH : Hid (hf h i = x) := hx
            rw [hx] at r3 hXD
            have r3H : Hid (wr.rangeAt b3 o3 x.cells ∧ b3 < wr.heap.size) := ⟨r3, hl3⟩
            obtain ⟨p, hp⟩ : ∃ p, fitC k c x = p := ⟨_, rfl⟩
            have hpH : Hid (fitC k c x = p) := hp
            have hpx : Hid (fitC k c (hf h i) = p) := by (show _ = _; rw [hx]; exact hp)
            have cDo : Hid (∀ wx, Below wr.heap.size wr wx → Calls Try.prog 36 #[.int .i64 k, .agg #[.int .i64 n, .slice a ml lc], x.val] wx (RdoQ wx k c x a)) := fun wx z => rdo_any hXD.out.1 hXD.out.2.1 hXD.out.2.2 (hO.out.below z).rep
            have hS : Hid (Below wr.heap.size wr wr.drew) := bey_drew wr
            have hRd : Hid (∀ w', Below wr.heap.size wr w' → w'.cell? ⟨S, 0, none⟩ = some (.int .i64 k) ∧ w'.rangeAt W.heap.size 0 [.int .i64 n, .slice a ml lc] ∧ w'.cell? ⟨S, 1, none⟩ = some (.slice ha h.length hc) ∧ w'.rangeAt b3 o3 x.cells) := fun w' z => ⟨(sd_cells (hO.out.below z).g.s).1, rng_blk (hO.out.below z).d, (sd_cells (hO.out.below z).g.s).2.1, range_blk r3H.out.1 (z.block _ r3H.out.2)⟩
            clear hx hp r3 hl3
            refine wp_region_noPanic ?_
            refine wp_region_held_drew (S := fun w' => Below wr.heap.size wr w') (by kernel_rfl) hS.out (fun _ => ?_)
            refine reg_move (i := 0) rfl (by kernel_rfl) (by kernel_rfl) (by kernel_rfl) (fun _ _ _ _ h => h) rfl (.pointer (some ⟨S, 0, none⟩)) (fun _ => rfl) hS.out ?_
            simp only [Act.put, List.getElem_toArray, List.getElem_cons_succ, List.getElem_cons_zero, List.setIfInBounds_toArray, List.set_cons_zero, List.set_cons_succ]
            refine reg_move (i := 1) rfl (by kernel_rfl) (by kernel_rfl) (by kernel_rfl) (fun _ _ _ _ h => h) rfl (.pointer (some ⟨S, 0, none⟩)) (fun _ => rfl) hS.out ?_
            simp only [Act.put, List.getElem_toArray, List.getElem_cons_succ, List.getElem_cons_zero, List.setIfInBounds_toArray, List.set_cons_zero, List.set_cons_succ]
            refine reg_move (i := 2) rfl (by kernel_rfl) (by kernel_rfl) (by kernel_rfl) (fun _ _ _ _ h => h) rfl (.pointer (some ⟨S, 0, none⟩)) (fun _ => rfl) hS.out ?_
            simp only [Act.put, List.getElem_toArray, List.getElem_cons_succ, List.getElem_cons_zero, List.setIfInBounds_toArray, List.set_cons_zero, List.set_cons_succ]
            refine reg_load1 (i := 3) rfl (by kernel_rfl) (by kernel_rfl) (by kernel_rfl) (fun _ _ _ _ h => h) rfl 3 _ rfl ⟨S, 0, none⟩ rfl _ Try.underlying3 rfl (.int .i64 k) (fun w' z => (hRd.out w' z).1) hS.out ?_
            simp only [Act.put, List.getElem_toArray, List.getElem_cons_succ, List.getElem_cons_zero, List.setIfInBounds_toArray, List.set_cons_zero, List.set_cons_succ]
            refine reg_load (i := 4) rfl (by kernel_rfl) (by kernel_rfl) (by kernel_rfl) (fun _ _ _ _ h => h) rfl TD6 _ rfl W.heap.size 0 rfl [.int .i64 n, .slice a ml lc] _ (fun w' z => (hRd.out w' z).2.1) Try.underlying75 rfl infoDg hS.out ?_
            simp only [Act.put, List.getElem_toArray, List.getElem_cons_succ, List.getElem_cons_zero, List.setIfInBounds_toArray, List.set_cons_zero, List.set_cons_succ]
            refine reg_move (i := 5) rfl (by kernel_rfl) (by kernel_rfl) (by kernel_rfl) (fun _ _ _ _ h => h) rfl (.pointer (some ⟨S, 0, none⟩)) (fun _ => rfl) hS.out ?_
            simp only [Act.put, List.getElem_toArray, List.getElem_cons_succ, List.getElem_cons_zero, List.setIfInBounds_toArray, List.set_cons_zero, List.set_cons_succ]
            refine reg_move (i := 6) rfl (by kernel_rfl) (by kernel_rfl) (by kernel_rfl) (fun _ _ _ _ h => h) rfl (.pointer (some ⟨S, 0, none⟩)) (fun _ => rfl) hS.out ?_
            simp only [Act.put, List.getElem_toArray, List.getElem_cons_succ, List.getElem_cons_zero, List.setIfInBounds_toArray, List.set_cons_zero, List.set_cons_succ]
            refine reg_move (i := 7) rfl (by kernel_rfl) (by kernel_rfl) (by kernel_rfl) (fun _ _ _ _ h => h) rfl (.pointer (some ⟨S, 1, none⟩)) (fun _ => rfl) hS.out ?_
            simp only [Act.put, List.getElem_toArray, List.getElem_cons_succ, List.getElem_cons_zero, List.setIfInBounds_toArray, List.set_cons_zero, List.set_cons_succ]
            refine reg_load1 (i := 8) rfl (by kernel_rfl) (by kernel_rfl) (by kernel_rfl) (fun _ _ _ _ h => h) rfl 22 _ rfl ⟨S, 1, none⟩ rfl _ Try.underlying22 rfl (.slice ha h.length hc) (fun w' z => (hRd.out w' z).2.2.1) hS.out ?_
            simp only [Act.put, List.getElem_toArray, List.getElem_cons_succ, List.getElem_cons_zero, List.setIfInBounds_toArray, List.set_cons_zero, List.set_cons_succ]
            refine reg_move (i := 9) rfl (by kernel_rfl) (by kernel_rfl) (by kernel_rfl) (fun _ _ _ _ h => h) rfl (.int .i64 (i : Int)) (fun _ => rfl) hS.out ?_
            simp only [Act.put, List.getElem_toArray, List.getElem_cons_succ, List.getElem_cons_zero, List.setIfInBounds_toArray, List.set_cons_zero, List.set_cons_succ]
            refine reg_move (i := 10) rfl (by kernel_rfl) (by kernel_rfl) (by kernel_rfl) (fun _ _ _ _ h => h) rfl (.pointer (some ⟨b3, o3, none⟩)) (fun wx => by unfold execOp; exact run_value_of (x3 wx)) hS.out ?_
            simp only [Act.put, List.getElem_toArray, List.getElem_cons_succ, List.getElem_cons_zero, List.setIfInBounds_toArray, List.set_cons_zero, List.set_cons_succ]
            refine reg_load (i := 11) rfl (by kernel_rfl) (by kernel_rfl) (by kernel_rfl) (fun _ _ _ _ h => h) rfl 53 _ rfl b3 o3 rfl x.cells _ (fun w' z => (hRd.out w' z).2.2.2) Try.underlying53 rfl infoX hS.out ?_
            simp only [Act.put, List.getElem_toArray, List.getElem_cons_succ, List.getElem_cons_zero, List.setIfInBounds_toArray, List.set_cons_zero, List.set_cons_succ]
            refine wpAnyH_ready (show Region.ready .any _ _ = [12, 16] by kernel_rfl) (by simp) (AllReadyH.cons rfl (arm_callL3 rfl 36 _ _ _ _ _ _ rfl (.int .i64 k) (.agg #[.int .i64 n, .slice a ml lc]) x.val rfl rfl rfl (cf_fn Try.func36 (by kernel_rfl) (by kernel_rfl) _ _) _ (cDo.out _ hS.out) ?_) (AllReadyH.cons rfl (arm_list rfl (wpList_alloc_big rfl TD6 rfl zeroDg (wpList_nil (And.intro (bthen hS.out (boxed _ _)) fun _ => ?_)))) AllReadyH.nil))
            · rintro e1 w5 ⟨n2, a2, m2, l2, rfl, hR5, hb5', hf5⟩
              have hb5 : Hid (Below wr.heap.size wr w5) := bthen hS.out hb5'
              have hq5 : Hid (RepD w5 k (nxtC k c x) n2 a2 m2 l2 ∧ ∀ g ∈ blk a2, g ≠ S ∧ g ∉ blk oa' ∧ g < w5.heap.size) := ⟨hR5, fun g hg => by
                have e2 := hb5.out.size
                rcases hf5 g hg with q | q
                · have := hO.out.apart g q
                  exact ⟨this.1, this.2.1, by omega⟩
                · have q1 : wr.heap.size < g := q.1
                  have := hO.out.g.lt
                  exact ⟨by omega, fun z => by have := (blk_lt hO.out.g.o g z).2; omega, q.2⟩⟩
              rw [hpH.out]
              refine ⟨_, rfl, hb5.out, fun _ => ?_⟩
              clear hR5 hb5' hf5
              simp only [Act.put, List.getElem_toArray, List.getElem_cons_succ, List.getElem_cons_zero, List.setIfInBounds_toArray, List.set_cons_zero, List.set_cons_succ]
              refine reg_move (i := 13) rfl (by kernel_rfl) (by kernel_rfl) (by kernel_rfl) (fun _ _ _ _ h => h) rfl (.tuple #[.agg #[.int .i64 n2, .slice a2 m2 l2], .bool p]) (fun _ => rfl) hb5.out ?_
              simp only [Act.put, List.getElem_toArray, List.getElem_cons_succ, List.getElem_cons_zero, List.setIfInBounds_toArray, List.set_cons_zero, List.set_cons_succ]
              refine reg_move (i := 14) rfl (by kernel_rfl) (by kernel_rfl) (by kernel_rfl) (fun _ _ _ _ h => h) rfl (.agg #[.int .i64 n2, .slice a2 m2 l2]) (fun _ => rfl) hb5.out ?_
              simp only [Act.put, List.getElem_toArray, List.getElem_cons_succ, List.getElem_cons_zero, List.setIfInBounds_toArray, List.set_cons_zero, List.set_cons_succ]
              refine reg_move (i := 15) rfl (by kernel_rfl) (by kernel_rfl) (by kernel_rfl) (fun _ _ _ _ h => h) rfl (.bool p) (fun _ => rfl) hb5.out ?_
              simp only [Act.put, List.getElem_toArray, List.getElem_cons_succ, List.getElem_cons_zero, List.setIfInBounds_toArray, List.set_cons_zero, List.set_cons_succ]
              refine reg_one (i := 16) (by kernel_rfl) rfl rfl (wpList_alloc_big rfl TD6 rfl zeroDg (wpList_nil (And.intro (bthen hb5.out (boxed _ _)) fun _ => ?_)))
              simp only [Act.put, List.getElem_toArray, List.getElem_cons_succ, List.getElem_cons_zero, List.setIfInBounds_toArray, List.set_cons_zero, List.set_cons_succ]
              obtain ⟨B, hB⟩ : ∃ B, w5.heap.size = B := ⟨_, rfl⟩
              obtain ⟨V, hVe⟩ : ∃ V, w5.alloc (.cells #[.int .i64 0, .slice none 0 0] TD6) = V := ⟨_, rfl⟩
              have hV : Hid (V.heap[B]? = some (oDg 0 none 0 0) ∧ RepD V k (nxtC k c x) n2 a2 m2 l2 ∧ (∀ g ∈ blk a2, g ≠ S ∧ g ∉ blk oa' ∧ g ≠ B ∧ g < V.heap.size) ∧ wr.heap.size ≤ B ∧ Below wr.heap.size wr V) := by
                rw [← hVe, ← hB]
                exact ⟨heap_alloc_new _ _, hq5.out.1.later (boxed _ _), fun g hg => ⟨(hq5.out.2 g hg).1, (hq5.out.2 g hg).2.1, Nat.ne_of_lt (hq5.out.2 g hg).2.2, by rw [World.size_alloc]; have := (hq5.out.2 g hg).2.2; omega⟩, hb5.out.size, bthen hb5.out (boxed _ _)⟩
              rw [hVe, hB]
              clear hq5 hb5 hB hVe
              refine reg_one (i := 17) (by kernel_rfl) rfl rfl (wpList_store_row rfl TD6 _ _ rfl B #[.int .i64 n2, .slice a2 m2 l2] rfl rfl _ _ hV.out.1 infoDg rfl (dg_one _ _ _ _) (wpList_nil (And.intro (below_setRow hV.out.2.2.2.2 hV.out.2.2.2.1 _) fun _ => ?_)))
              simp only [Act.put, List.getElem_toArray, List.getElem_cons_succ, List.getElem_cons_zero, List.setIfInBounds_toArray, List.set_cons_zero, List.set_cons_succ]
              have hSy : Hid (Below wr.heap.size wr (V.setRow B #[.int .i64 n2, .slice a2 m2 l2])) := below_setRow hV.out.2.2.2.2 hV.out.2.2.2.1 _
              refine reg_move (i := 18) rfl (by kernel_rfl) (by kernel_rfl) (by kernel_rfl) (fun _ _ _ _ h => h) rfl (.bool p) (fun _ => rfl) hSy.out ?_
              simp only [Act.put, List.getElem_toArray, List.getElem_cons_succ, List.getElem_cons_zero, List.setIfInBounds_toArray, List.set_cons_zero, List.set_cons_succ]
              refine wpAnyH_done (by kernel_rfl) (NoPanic.normal ?_) _
              have hY : Hid (OnS w0 W (V.setRow B #[.int .i64 n2, .slice a2 m2 l2]) k h ha hc tm S T' oa oa' oc' c n a ml lc ∧ (V.setRow B #[.int .i64 n2, .slice a2 m2 l2]).heap[B]? = some (oDg n2 a2 m2 l2) ∧ RepD (V.setRow B #[.int .i64 n2, .slice a2 m2 l2]) k (nxtC k c x) n2 a2 m2 l2 ∧ (∀ g ∈ blk a2, g ≠ S ∧ g ∉ blk oa' ∧ g < (V.setRow B #[.int .i64 n2, .slice a2 m2 l2]).heap.size) ∧ B ≠ S ∧ B ∉ blk oa') := by
                refine ⟨hO.out.below hSy.out, setRow_heap _ _ _ _ _ _ hV.out.1, rep_keepB hV.out.2.1 fun g hg => setRow_other _ _ _ _ (hV.out.2.2.1 g hg).2.2.1, fun g hg => ⟨(hV.out.2.2.1 g hg).1, (hV.out.2.2.1 g hg).2.1, by rw [setRow_size]; exact (hV.out.2.2.1 g hg).2.2.2⟩, ?_, fun q => ?_⟩
                · have := hO.out.g.lt; have := hV.out.2.2.2.1; omega
                · have := (blk_lt hO.out.g.o B q).2; have := hV.out.2.2.2.1; omega
              generalize World.setRow V B _ = Y at *
              clear hV hSy hO hRd hS x3 r3H cDo
              cases p with
              | false =>
                have hL5 : Hid (LoD k (relT tm) h T fu D c (i + 1) T') := hL.out.skip hlt (by rw [hpx.out, Bool.and_false])
                clear hL
                go_wp2
                go_roundw
                case rel => exact ⟨i + 1, by omega, by go_num, T', oa', oc', hY.out.1, hL5.out⟩
                case measure => simp [intOf]; omega
              | true =>
                have hff : Hid ((mayB (relT tm) h (fD D) i && fitC k c (hf h i)) = true) := by (show _ = _; rw [hdH.out, hpx.out]; rfl)
                have cO := hIH.out i Y T' oa' oc' n2 a2 m2 l2 hlt hdH.out hpx.out hY.out.1.g (by rw [hxH.out]; exact hY.out.2.2.1) hY.out.2.2.2.1 hL.out.v (by
                  have h1 := hL.out.n
                  have h2 := hNN.out
                  have h3 := pow9_le (m := fu) (i := i) (by have := hn8.out; omega)
                  omega)
                have cOH : Hid _ := cO
                clear cO
                go_upto_region 14 with fail
                have hS : Hid (Y.drew.heap[B]? = some (oDg n2 a2 m2 l2)) := hY.out.2.1
                have hi8 : i < 8 := by have := hn8.out; omega
                have hD9 := hD8.out
                refine wp_region_noPanic ?_
                refine wp_region_held_drew (S := fun w' => w'.heap[B]? = some (oDg n2 a2 m2 l2)) (by kernel_rfl) hS.out (fun _ => ?_)
                refine reg_move (i := 0) rfl (by kernel_rfl) (by kernel_rfl) (by kernel_rfl) (fun _ _ _ _ h => h) rfl (.pointer (some ⟨S, 0, none⟩)) (fun _ => rfl) hS.out ?_
                simp only [Act.put, List.getElem_toArray, List.getElem_cons_succ, List.getElem_cons_zero, List.setIfInBounds_toArray, List.set_cons_zero, List.set_cons_succ]
                refine reg_move (i := 1) rfl (by kernel_rfl) (by kernel_rfl) (by kernel_rfl) (fun _ _ _ _ h => h) rfl (.int .i64 (D : Int)) (fun _ => rfl) hS.out ?_
                simp only [Act.put, List.getElem_toArray, List.getElem_cons_succ, List.getElem_cons_zero, List.setIfInBounds_toArray, List.set_cons_zero, List.set_cons_succ]
                refine reg_move (i := 2) rfl (by kernel_rfl) (by kernel_rfl) (by kernel_rfl) (fun _ _ _ _ h => h) rfl (.int .i64 (i : Int)) (fun _ => rfl) hS.out ?_
                simp only [Act.put, List.getElem_toArray, List.getElem_cons_succ, List.getElem_cons_zero, List.setIfInBounds_toArray, List.set_cons_zero, List.set_cons_succ]
                refine reg_move (i := 3) rfl (by kernel_rfl) (by kernel_rfl) (by kernel_rfl) (fun _ _ _ _ h => h) rfl (.int .i64 ((2 ^ i : Nat) : Int)) (fun wx => by unfold execOp; exact run_val2 (shl_run i hi8 wx)) hS.out ?_
                simp only [Act.put, List.getElem_toArray, List.getElem_cons_succ, List.getElem_cons_zero, List.setIfInBounds_toArray, List.set_cons_zero, List.set_cons_succ]
                refine reg_move (i := 4) rfl (by kernel_rfl) (by kernel_rfl) (by kernel_rfl) (fun _ _ _ _ h => h) rfl (.int .i64 ((D ||| 2 ^ i : Nat) : Int)) (fun wx => by unfold execOp; exact run_val2 (or_run D i hD9 hi8 wx)) hS.out ?_
                simp only [Act.put, List.getElem_toArray, List.getElem_cons_succ, List.getElem_cons_zero, List.setIfInBounds_toArray, List.set_cons_zero, List.set_cons_succ]
                refine reg_load (i := 5) rfl (by kernel_rfl) (by kernel_rfl) (by kernel_rfl) (fun _ _ _ _ h => h) rfl TD6 _ rfl B 0 rfl [.int .i64 n2, .slice a2 m2 l2] _ (fun w' z => rng_blk z) Try.underlying75 rfl infoDg hS.out ?_
                simp only [Act.put, List.getElem_toArray, List.getElem_cons_succ, List.getElem_cons_zero, List.setIfInBounds_toArray, List.set_cons_zero, List.set_cons_succ]
                have hYd : Hid (SdS w0 Y.drew k h ha hc tm S T' oa' oc') := hY.out.1.g.below (bey_drew Y)
                have cO := hIH.out i Y.drew T' oa' oc' n2 a2 m2 l2 hlt hdH.out hpx.out hYd.out (by rw [hxH.out]; exact hY.out.2.2.1.later (bey_drew Y)) hY.out.2.2.2.1 hL.out.v (by
                  have h1 := hL.out.n
                  have h2 := hNN.out
                  have h3 := pow9_le (m := fu) (i := i) (by have := hn8.out; omega)
                  omega)
                refine reg_call3L (i := 6) (by kernel_rfl) rfl rfl 32 _ _ _ _ _ _ rfl (.pointer (some ⟨S, 0, none⟩)) (.int .i64 ((D ||| 2 ^ i : Nat) : Int)) (.agg #[.int .i64 n2, .slice a2 m2 l2]) rfl rfl rfl (cf_fn Try.func32 (by kernel_rfl) (by kernel_rfl) _ _) _ cO ?_
                clear cO cOH
                rintro e1 Z ⟨T2, oa2, oc2, hg2, hf2, hn2, hv2, hres⟩
                have hZ : Hid (OnS w0 W Z k h ha hc tm S T2 oa oa2 oc2 c n a ml lc) := (hY.out.1.below (bey_drew Y)).call hg2 hf2
                have hZB : Hid (Z.heap[B]? = some (oDg n2 a2 m2 l2)) := (hf2.k B (Array.getElem?_eq_some_iff.mp hS.out).1 hY.out.2.2.2.2.1 hY.out.2.2.2.2.1 hY.out.2.2.2.2.2).trans hS.out
                clear hg2 hf2
                rcases hres with ⟨hno, rfl⟩ | ⟨r, ra, rc, hso, rfl, hra⟩
                · have hL5 : Hid (LoD k (relT tm) h T fu D c (i + 1) T2) := hL.out.miss hlt hff.out hno hv2 hn2
                  refine ⟨_, rfl, hZB.out, fun _ => ?_⟩
                  simp only [Act.put, List.getElem_toArray, List.getElem_cons_succ, List.getElem_cons_zero, List.setIfInBounds_toArray, List.set_cons_zero, List.set_cons_succ]
                  refine reg_move (i := 7) rfl (by kernel_rfl) (by kernel_rfl) (by kernel_rfl) (fun _ _ _ _ h => h) rfl (.tuple #[.slice none 0 0, .bool false]) (fun _ => rfl) hZB.out ?_
                  simp only [Act.put, List.getElem_toArray, List.getElem_cons_succ, List.getElem_cons_zero, List.setIfInBounds_toArray, List.set_cons_zero, List.set_cons_succ]
                  refine reg_move (i := 8) rfl (by kernel_rfl) (by kernel_rfl) (by kernel_rfl) (fun _ _ _ _ h => h) rfl (.slice none 0 0) (fun _ => rfl) hZB.out ?_
                  simp only [Act.put, List.getElem_toArray, List.getElem_cons_succ, List.getElem_cons_zero, List.setIfInBounds_toArray, List.set_cons_zero, List.set_cons_succ]
                  refine reg_move (i := 9) rfl (by kernel_rfl) (by kernel_rfl) (by kernel_rfl) (fun _ _ _ _ h => h) rfl (.bool false) (fun _ => rfl) hZB.out ?_
                  simp only [Act.put, List.getElem_toArray, List.getElem_cons_succ, List.getElem_cons_zero, List.setIfInBounds_toArray, List.set_cons_zero, List.set_cons_succ]
                  refine reg_move (i := 10) rfl (by kernel_rfl) (by kernel_rfl) (by kernel_rfl) (fun _ _ _ _ h => h) rfl (.slice none 0 0) (fun _ => rfl) hZB.out ?_
                  simp only [Act.put, List.getElem_toArray, List.getElem_cons_succ, List.getElem_cons_zero, List.setIfInBounds_toArray, List.set_cons_zero, List.set_cons_succ]
                  refine reg_move (i := 11) rfl (by kernel_rfl) (by kernel_rfl) (by kernel_rfl) (fun _ _ _ _ h => h) rfl (.bool false) (fun _ => rfl) hZB.out ?_
                  simp only [Act.put, List.getElem_toArray, List.getElem_cons_succ, List.getElem_cons_zero, List.setIfInBounds_toArray, List.set_cons_zero, List.set_cons_succ]
                  refine wpAnyH_done (by kernel_rfl) (NoPanic.normal ?_) _
                  clear hL hY hS hZB hYd hno hv2 hn2
                  go_wp2
                  go_roundw
                  case rel => exact ⟨i + 1, by omega, by go_num, T2, oa2, oc2, hZ.out, hL5.out⟩
                  case measure => simp [intOf]; omega
                · have hhit : Hid (fsB k (relT tm) h (fD D) c = some (i :: r)) := hL.out.hit hlt hff.out hso
                  have hra8 : Hid (r.length ≤ 8 ∧ Rows Z 1 ra rc ((asI r).map chCells)) := ⟨by
                    have hw := fst0_sound hso
                    exact Nat.le_trans (len_nodup h.length r (walkP_nodup hw) fun x hx => (walkP_mem hw x hx).1) hn8.out, hra⟩
                  have hvv : Hid ((∀ q ∈ T2, fsB k (relT tm) h (fD q.D) q.c = none) ∧ T2.length + 1 ≤ T.length + 9 ^ (fu + 1 + 1)) := ⟨hv2, by
                    have h1 := hL.out.n
                    have h3 := pow9_le (m := fu) (i := i) (by have := hn8.out; omega)
                    omega⟩
                  refine ⟨_, rfl, hZB.out, fun _ => ?_⟩
                  simp only [Act.put, List.getElem_toArray, List.getElem_cons_succ, List.getElem_cons_zero, List.setIfInBounds_toArray, List.set_cons_zero, List.set_cons_succ]
                  refine reg_move (i := 7) rfl (by kernel_rfl) (by kernel_rfl) (by kernel_rfl) (fun _ _ _ _ h => h) rfl (.tuple #[.slice ra r.length rc, .bool true]) (fun _ => rfl) hZB.out ?_
                  simp only [Act.put, List.getElem_toArray, List.getElem_cons_succ, List.getElem_cons_zero, List.setIfInBounds_toArray, List.set_cons_zero, List.set_cons_succ]
                  refine reg_move (i := 8) rfl (by kernel_rfl) (by kernel_rfl) (by kernel_rfl) (fun _ _ _ _ h => h) rfl (.slice ra r.length rc) (fun _ => rfl) hZB.out ?_
                  simp only [Act.put, List.getElem_toArray, List.getElem_cons_succ, List.getElem_cons_zero, List.setIfInBounds_toArray, List.set_cons_zero, List.set_cons_succ]
                  refine reg_move (i := 9) rfl (by kernel_rfl) (by kernel_rfl) (by kernel_rfl) (fun _ _ _ _ h => h) rfl (.bool true) (fun _ => rfl) hZB.out ?_
                  simp only [Act.put, List.getElem_toArray, List.getElem_cons_succ, List.getElem_cons_zero, List.setIfInBounds_toArray, List.set_cons_zero, List.set_cons_succ]
                  refine reg_move (i := 10) rfl (by kernel_rfl) (by kernel_rfl) (by kernel_rfl) (fun _ _ _ _ h => h) rfl (.slice ra r.length rc) (fun _ => rfl) hZB.out ?_
                  simp only [Act.put, List.getElem_toArray, List.getElem_cons_succ, List.getElem_cons_zero, List.setIfInBounds_toArray, List.set_cons_zero, List.set_cons_succ]
                  refine reg_move (i := 11) rfl (by kernel_rfl) (by kernel_rfl) (by kernel_rfl) (fun _ _ _ _ h => h) rfl (.bool true) (fun _ => rfl) hZB.out ?_
                  simp only [Act.put, List.getElem_toArray, List.getElem_cons_succ, List.getElem_cons_zero, List.setIfInBounds_toArray, List.set_cons_zero, List.set_cons_succ]
                  refine wpAnyH_done (by kernel_rfl) (NoPanic.normal ?_) _
                  clear hL hY hS hZB hYd hso hv2 hn2 hra
                  go_wp2_with (first
                    | (refine wpList_buildSlice rfl 26 3 1 _ rfl (chCells (i : Int)).toArray iN _ Try.underlying26 hiN.out hzN.out (by rw [hsN.out]; omega) (by rw [hsN.out]; omega) (by simp only [hsN.out]; kernel_rfl) ?_)
                    | (at_builtin; (refine wpList_app rfl (.tmp 92) (.tmp 93) 26 rfl Z.heap.size 3 iN _ 1 8 Try.underlying26 hiN.out hzN.out hsN.out hbN.out rfl (by decide) (some ⟨Z.heap.size, 0, none⟩) 1 [chCells (i : Int)] rfl (own_new1 Z (i : Int)) ra rc ((asI r).map chCells) (by rw [List.length_map, List.length_map]; rfl) (hra8.out.2.later (boxed _ _)) (fun row hr => by (obtain ⟨z, _, rfl⟩ := List.mem_map.mp hr); rfl) (fun row hr u hu => by (obtain ⟨z, _, rfl⟩ := List.mem_map.mp hr); (simp [chCells] at hu); (rw [hu]; rfl)) (by rw [List.length_map, List.length_map]; have := hra8.out.1; unfold maxLen; simp only [List.length_singleton]; omega) (by rw [List.length_map, List.length_map]; have := hra8.out.1; simp only [List.length_singleton]; omega) (by rw [World.size_alloc]; omega) ?_); intro va vc Z2 how hkp hbe hbk))
                  have hZ2 : Hid (OnS w0 W Z2 k h ha hc tm S T2 oa oa2 oc2 c n a ml lc) := hZ.out.below ((boxed Z _).trans (by rw [Nat.min_eq_left (by rw [World.size_alloc]; omega)] at hbe; exact hbe))
                  go_ret2
                  exact ⟨T2, oa2, oc2, hZ2.out.g, hZ2.out.fr, hvv.out.2, hvv.out.1, .inr ⟨i :: r, va, vc, hhit.out, by simp, own_rows how (fun row hr => by (obtain ⟨z, _, rfl⟩ := List.mem_map.mp (by simpa [asI] using hr : row ∈ ((i :: r).map fun (j : Nat) => (j : Int)).map chCells)); rfl)⟩⟩
            · simp only [Act.put, List.getElem_toArray, List.getElem_cons_succ, List.getElem_cons_zero, List.setIfInBounds_toArray, List.set_cons_zero, List.set_cons_succ]
              obtain ⟨B, hB⟩ : ∃ B, wr.drew.heap.size = B := ⟨_, rfl⟩
              obtain ⟨V0, hVe⟩ : ∃ V0, wr.drew.alloc (.cells #[.int .i64 0, .slice none 0 0] TD6) = V0 := ⟨_, rfl⟩
              have hV0 : Hid (V0.heap[B]? = some (oDg 0 none 0 0) ∧ wr.heap.size ≤ B ∧ B < V0.heap.size ∧ Below wr.heap.size wr V0) := by
                rw [← hVe, ← hB]
                exact ⟨heap_alloc_new _ _, hS.out.size, by rw [World.size_alloc]; omega, bthen hS.out (boxed _ _)⟩
              rw [hVe, hB]
              clear hB hVe
              refine reg_call3L (i := 12) (by kernel_rfl) rfl rfl 36 _ _ _ _ _ _ rfl (.int .i64 k) (.agg #[.int .i64 n, .slice a ml lc]) x.val rfl rfl rfl (cf_fn Try.func36 (by kernel_rfl) (by kernel_rfl) _ _) _ (cDo.out _ hV0.out.2.2.2) ?_
              rintro e1 V ⟨n2, a2, m2, l2, rfl, hR5, hb5', hf5⟩
              have hV : Hid (V.heap[B]? = some (oDg 0 none 0 0) ∧ RepD V k (nxtC k c x) n2 a2 m2 l2 ∧ (∀ g ∈ blk a2, g ≠ S ∧ g ∉ blk oa' ∧ g ≠ B ∧ g < V.heap.size) ∧ wr.heap.size ≤ B ∧ Below wr.heap.size wr V) := by
                refine ⟨blk_on hV0.out.1 hb5', hR5, fun g hg => ?_, hV0.out.2.1, bthen hV0.out.2.2.2 hb5'⟩
                have e1 := hb5'.size
                have e2 := hV0.out.2.2.2.size
                have e3 := hV0.out.2.1
                have e4 := hV0.out.2.2.1
                rcases hf5 g hg with q | q
                · have := hO.out.apart g q
                  exact ⟨this.1, this.2.1, by omega, by omega⟩
                · have q1 : V0.heap.size < g := q.1
                  have := hO.out.g.lt
                  exact ⟨by omega, fun z => by have := (blk_lt hO.out.g.o g z).2; omega, by omega, q.2⟩
              have hb6 : Hid (Below wr.heap.size wr V) := hV.out.2.2.2.2
              rw [hpH.out]
              refine ⟨_, rfl, hb6.out, fun _ => ?_⟩
              clear hR5 hb5' hf5 hV0
              simp only [Act.put, List.getElem_toArray, List.getElem_cons_succ, List.getElem_cons_zero, List.setIfInBounds_toArray, List.set_cons_zero, List.set_cons_succ]
              refine reg_move (i := 13) rfl (by kernel_rfl) (by kernel_rfl) (by kernel_rfl) (fun _ _ _ _ h => h) rfl (.tuple #[.agg #[.int .i64 n2, .slice a2 m2 l2], .bool p]) (fun _ => rfl) hb6.out ?_
              simp only [Act.put, List.getElem_toArray, List.getElem_cons_succ, List.getElem_cons_zero, List.setIfInBounds_toArray, List.set_cons_zero, List.set_cons_succ]
              refine reg_move (i := 14) rfl (by kernel_rfl) (by kernel_rfl) (by kernel_rfl) (fun _ _ _ _ h => h) rfl (.agg #[.int .i64 n2, .slice a2 m2 l2]) (fun _ => rfl) hb6.out ?_
              simp only [Act.put, List.getElem_toArray, List.getElem_cons_succ, List.getElem_cons_zero, List.setIfInBounds_toArray, List.set_cons_zero, List.set_cons_succ]
              refine reg_move (i := 15) rfl (by kernel_rfl) (by kernel_rfl) (by kernel_rfl) (fun _ _ _ _ h => h) rfl (.bool p) (fun _ => rfl) hb6.out ?_
              simp only [Act.put, List.getElem_toArray, List.getElem_cons_succ, List.getElem_cons_zero, List.setIfInBounds_toArray, List.set_cons_zero, List.set_cons_succ]
              clear hb6
              refine reg_one (i := 17) (by kernel_rfl) rfl rfl (wpList_store_row rfl TD6 _ _ rfl B #[.int .i64 n2, .slice a2 m2 l2] rfl rfl _ _ hV.out.1 infoDg rfl (dg_one _ _ _ _) (wpList_nil (And.intro (below_setRow hV.out.2.2.2.2 hV.out.2.2.2.1 _) fun _ => ?_)))
              simp only [Act.put, List.getElem_toArray, List.getElem_cons_succ, List.getElem_cons_zero, List.setIfInBounds_toArray, List.set_cons_zero, List.set_cons_succ]
              have hSy : Hid (Below wr.heap.size wr (V.setRow B #[.int .i64 n2, .slice a2 m2 l2])) := below_setRow hV.out.2.2.2.2 hV.out.2.2.2.1 _
              refine reg_move (i := 18) rfl (by kernel_rfl) (by kernel_rfl) (by kernel_rfl) (fun _ _ _ _ h => h) rfl (.bool p) (fun _ => rfl) hSy.out ?_
              simp only [Act.put, List.getElem_toArray, List.getElem_cons_succ, List.getElem_cons_zero, List.setIfInBounds_toArray, List.set_cons_zero, List.set_cons_succ]
              refine wpAnyH_done (by kernel_rfl) (NoPanic.normal ?_) _
              have hY : Hid (OnS w0 W (V.setRow B #[.int .i64 n2, .slice a2 m2 l2]) k h ha hc tm S T' oa oa' oc' c n a ml lc ∧ (V.setRow B #[.int .i64 n2, .slice a2 m2 l2]).heap[B]? = some (oDg n2 a2 m2 l2) ∧ RepD (V.setRow B #[.int .i64 n2, .slice a2 m2 l2]) k (nxtC k c x) n2 a2 m2 l2 ∧ (∀ g ∈ blk a2, g ≠ S ∧ g ∉ blk oa' ∧ g < (V.setRow B #[.int .i64 n2, .slice a2 m2 l2]).heap.size) ∧ B ≠ S ∧ B ∉ blk oa') := by
                refine ⟨hO.out.below hSy.out, setRow_heap _ _ _ _ _ _ hV.out.1, rep_keepB hV.out.2.1 fun g hg => setRow_other _ _ _ _ (hV.out.2.2.1 g hg).2.2.1, fun g hg => ⟨(hV.out.2.2.1 g hg).1, (hV.out.2.2.1 g hg).2.1, by rw [setRow_size]; exact (hV.out.2.2.1 g hg).2.2.2⟩, ?_, fun q => ?_⟩
                · have := hO.out.g.lt; have := hV.out.2.2.2.1; omega
                · have := (blk_lt hO.out.g.o B q).2; have := hV.out.2.2.2.1; omega
              generalize World.setRow V B _ = Y at *
              clear hV hSy hO hRd hS x3 r3H cDo
              cases p with
              | false =>
                have hL5 : Hid (LoD k (relT tm) h T fu D c (i + 1) T') := hL.out.skip hlt (by rw [hpx.out, Bool.and_false])
                clear hL
                go_wp2
                go_roundw
                case rel => exact ⟨i + 1, by omega, by go_num, T', oa', oc', hY.out.1, hL5.out⟩
                case measure => simp [intOf]; omega
              | true =>
                have hff : Hid ((mayB (relT tm) h (fD D) i && fitC k c (hf h i)) = true) := by (show _ = _; rw [hdH.out, hpx.out]; rfl)
                have cO := hIH.out i Y T' oa' oc' n2 a2 m2 l2 hlt hdH.out hpx.out hY.out.1.g (by rw [hxH.out]; exact hY.out.2.2.1) hY.out.2.2.2.1 hL.out.v (by
                  have h1 := hL.out.n
                  have h2 := hNN.out
                  have h3 := pow9_le (m := fu) (i := i) (by have := hn8.out; omega)
                  omega)
                have cOH : Hid _ := cO
                clear cO
                go_upto_region 14 with fail
                have hS : Hid (Y.drew.heap[B]? = some (oDg n2 a2 m2 l2)) := hY.out.2.1
                have hi8 : i < 8 := by have := hn8.out; omega
                have hD9 := hD8.out
                refine wp_region_noPanic ?_
                refine wp_region_held_drew (S := fun w' => w'.heap[B]? = some (oDg n2 a2 m2 l2)) (by kernel_rfl) hS.out (fun _ => ?_)
                refine reg_move (i := 0) rfl (by kernel_rfl) (by kernel_rfl) (by kernel_rfl) (fun _ _ _ _ h => h) rfl (.pointer (some ⟨S, 0, none⟩)) (fun _ => rfl) hS.out ?_
                simp only [Act.put, List.getElem_toArray, List.getElem_cons_succ, List.getElem_cons_zero, List.setIfInBounds_toArray, List.set_cons_zero, List.set_cons_succ]
                refine reg_move (i := 1) rfl (by kernel_rfl) (by kernel_rfl) (by kernel_rfl) (fun _ _ _ _ h => h) rfl (.int .i64 (D : Int)) (fun _ => rfl) hS.out ?_
                simp only [Act.put, List.getElem_toArray, List.getElem_cons_succ, List.getElem_cons_zero, List.setIfInBounds_toArray, List.set_cons_zero, List.set_cons_succ]
                refine reg_move (i := 2) rfl (by kernel_rfl) (by kernel_rfl) (by kernel_rfl) (fun _ _ _ _ h => h) rfl (.int .i64 (i : Int)) (fun _ => rfl) hS.out ?_
                simp only [Act.put, List.getElem_toArray, List.getElem_cons_succ, List.getElem_cons_zero, List.setIfInBounds_toArray, List.set_cons_zero, List.set_cons_succ]
                refine reg_move (i := 3) rfl (by kernel_rfl) (by kernel_rfl) (by kernel_rfl) (fun _ _ _ _ h => h) rfl (.int .i64 ((2 ^ i : Nat) : Int)) (fun wx => by unfold execOp; exact run_val2 (shl_run i hi8 wx)) hS.out ?_
                simp only [Act.put, List.getElem_toArray, List.getElem_cons_succ, List.getElem_cons_zero, List.setIfInBounds_toArray, List.set_cons_zero, List.set_cons_succ]
                refine reg_move (i := 4) rfl (by kernel_rfl) (by kernel_rfl) (by kernel_rfl) (fun _ _ _ _ h => h) rfl (.int .i64 ((D ||| 2 ^ i : Nat) : Int)) (fun wx => by unfold execOp; exact run_val2 (or_run D i hD9 hi8 wx)) hS.out ?_
                simp only [Act.put, List.getElem_toArray, List.getElem_cons_succ, List.getElem_cons_zero, List.setIfInBounds_toArray, List.set_cons_zero, List.set_cons_succ]
                refine reg_load (i := 5) rfl (by kernel_rfl) (by kernel_rfl) (by kernel_rfl) (fun _ _ _ _ h => h) rfl TD6 _ rfl B 0 rfl [.int .i64 n2, .slice a2 m2 l2] _ (fun w' z => rng_blk z) Try.underlying75 rfl infoDg hS.out ?_
                simp only [Act.put, List.getElem_toArray, List.getElem_cons_succ, List.getElem_cons_zero, List.setIfInBounds_toArray, List.set_cons_zero, List.set_cons_succ]
                have hYd : Hid (SdS w0 Y.drew k h ha hc tm S T' oa' oc') := hY.out.1.g.below (bey_drew Y)
                have cO := hIH.out i Y.drew T' oa' oc' n2 a2 m2 l2 hlt hdH.out hpx.out hYd.out (by rw [hxH.out]; exact hY.out.2.2.1.later (bey_drew Y)) hY.out.2.2.2.1 hL.out.v (by
                  have h1 := hL.out.n
                  have h2 := hNN.out
                  have h3 := pow9_le (m := fu) (i := i) (by have := hn8.out; omega)
                  omega)
                refine reg_call3L (i := 6) (by kernel_rfl) rfl rfl 32 _ _ _ _ _ _ rfl (.pointer (some ⟨S, 0, none⟩)) (.int .i64 ((D ||| 2 ^ i : Nat) : Int)) (.agg #[.int .i64 n2, .slice a2 m2 l2]) rfl rfl rfl (cf_fn Try.func32 (by kernel_rfl) (by kernel_rfl) _ _) _ cO ?_
                clear cO cOH
                rintro e1 Z ⟨T2, oa2, oc2, hg2, hf2, hn2, hv2, hres⟩
                have hZ : Hid (OnS w0 W Z k h ha hc tm S T2 oa oa2 oc2 c n a ml lc) := (hY.out.1.below (bey_drew Y)).call hg2 hf2
                have hZB : Hid (Z.heap[B]? = some (oDg n2 a2 m2 l2)) := (hf2.k B (Array.getElem?_eq_some_iff.mp hS.out).1 hY.out.2.2.2.2.1 hY.out.2.2.2.2.1 hY.out.2.2.2.2.2).trans hS.out
                clear hg2 hf2
                rcases hres with ⟨hno, rfl⟩ | ⟨r, ra, rc, hso, rfl, hra⟩
                · have hL5 : Hid (LoD k (relT tm) h T fu D c (i + 1) T2) := hL.out.miss hlt hff.out hno hv2 hn2
                  refine ⟨_, rfl, hZB.out, fun _ => ?_⟩
                  simp only [Act.put, List.getElem_toArray, List.getElem_cons_succ, List.getElem_cons_zero, List.setIfInBounds_toArray, List.set_cons_zero, List.set_cons_succ]
                  refine reg_move (i := 7) rfl (by kernel_rfl) (by kernel_rfl) (by kernel_rfl) (fun _ _ _ _ h => h) rfl (.tuple #[.slice none 0 0, .bool false]) (fun _ => rfl) hZB.out ?_
                  simp only [Act.put, List.getElem_toArray, List.getElem_cons_succ, List.getElem_cons_zero, List.setIfInBounds_toArray, List.set_cons_zero, List.set_cons_succ]
                  refine reg_move (i := 8) rfl (by kernel_rfl) (by kernel_rfl) (by kernel_rfl) (fun _ _ _ _ h => h) rfl (.slice none 0 0) (fun _ => rfl) hZB.out ?_
                  simp only [Act.put, List.getElem_toArray, List.getElem_cons_succ, List.getElem_cons_zero, List.setIfInBounds_toArray, List.set_cons_zero, List.set_cons_succ]
                  refine reg_move (i := 9) rfl (by kernel_rfl) (by kernel_rfl) (by kernel_rfl) (fun _ _ _ _ h => h) rfl (.bool false) (fun _ => rfl) hZB.out ?_
                  simp only [Act.put, List.getElem_toArray, List.getElem_cons_succ, List.getElem_cons_zero, List.setIfInBounds_toArray, List.set_cons_zero, List.set_cons_succ]
                  refine reg_move (i := 10) rfl (by kernel_rfl) (by kernel_rfl) (by kernel_rfl) (fun _ _ _ _ h => h) rfl (.slice none 0 0) (fun _ => rfl) hZB.out ?_
                  simp only [Act.put, List.getElem_toArray, List.getElem_cons_succ, List.getElem_cons_zero, List.setIfInBounds_toArray, List.set_cons_zero, List.set_cons_succ]
                  refine reg_move (i := 11) rfl (by kernel_rfl) (by kernel_rfl) (by kernel_rfl) (fun _ _ _ _ h => h) rfl (.bool false) (fun _ => rfl) hZB.out ?_
                  simp only [Act.put, List.getElem_toArray, List.getElem_cons_succ, List.getElem_cons_zero, List.setIfInBounds_toArray, List.set_cons_zero, List.set_cons_succ]
                  refine wpAnyH_done (by kernel_rfl) (NoPanic.normal ?_) _
                  clear hL hY hS hZB hYd hno hv2 hn2
                  go_wp2
                  go_roundw
                  case rel => exact ⟨i + 1, by omega, by go_num, T2, oa2, oc2, hZ.out, hL5.out⟩
                  case measure => simp [intOf]; omega
                · have hhit : Hid (fsB k (relT tm) h (fD D) c = some (i :: r)) := hL.out.hit hlt hff.out hso
                  have hra8 : Hid (r.length ≤ 8 ∧ Rows Z 1 ra rc ((asI r).map chCells)) := ⟨by
                    have hw := fst0_sound hso
                    exact Nat.le_trans (len_nodup h.length r (walkP_nodup hw) fun x hx => (walkP_mem hw x hx).1) hn8.out, hra⟩
                  have hvv : Hid ((∀ q ∈ T2, fsB k (relT tm) h (fD q.D) q.c = none) ∧ T2.length + 1 ≤ T.length + 9 ^ (fu + 1 + 1)) := ⟨hv2, by
                    have h1 := hL.out.n
                    have h3 := pow9_le (m := fu) (i := i) (by have := hn8.out; omega)
                    omega⟩
                  refine ⟨_, rfl, hZB.out, fun _ => ?_⟩
                  simp only [Act.put, List.getElem_toArray, List.getElem_cons_succ, List.getElem_cons_zero, List.setIfInBounds_toArray, List.set_cons_zero, List.set_cons_succ]
                  refine reg_move (i := 7) rfl (by kernel_rfl) (by kernel_rfl) (by kernel_rfl) (fun _ _ _ _ h => h) rfl (.tuple #[.slice ra r.length rc, .bool true]) (fun _ => rfl) hZB.out ?_
                  simp only [Act.put, List.getElem_toArray, List.getElem_cons_succ, List.getElem_cons_zero, List.setIfInBounds_toArray, List.set_cons_zero, List.set_cons_succ]
                  refine reg_move (i := 8) rfl (by kernel_rfl) (by kernel_rfl) (by kernel_rfl) (fun _ _ _ _ h => h) rfl (.slice ra r.length rc) (fun _ => rfl) hZB.out ?_
                  simp only [Act.put, List.getElem_toArray, List.getElem_cons_succ, List.getElem_cons_zero, List.setIfInBounds_toArray, List.set_cons_zero, List.set_cons_succ]
                  refine reg_move (i := 9) rfl (by kernel_rfl) (by kernel_rfl) (by kernel_rfl) (fun _ _ _ _ h => h) rfl (.bool true) (fun _ => rfl) hZB.out ?_
                  simp only [Act.put, List.getElem_toArray, List.getElem_cons_succ, List.getElem_cons_zero, List.setIfInBounds_toArray, List.set_cons_zero, List.set_cons_succ]
                  refine reg_move (i := 10) rfl (by kernel_rfl) (by kernel_rfl) (by kernel_rfl) (fun _ _ _ _ h => h) rfl (.slice ra r.length rc) (fun _ => rfl) hZB.out ?_
                  simp only [Act.put, List.getElem_toArray, List.getElem_cons_succ, List.getElem_cons_zero, List.setIfInBounds_toArray, List.set_cons_zero, List.set_cons_succ]
                  refine reg_move (i := 11) rfl (by kernel_rfl) (by kernel_rfl) (by kernel_rfl) (fun _ _ _ _ h => h) rfl (.bool true) (fun _ => rfl) hZB.out ?_
                  simp only [Act.put, List.getElem_toArray, List.getElem_cons_succ, List.getElem_cons_zero, List.setIfInBounds_toArray, List.set_cons_zero, List.set_cons_succ]
                  refine wpAnyH_done (by kernel_rfl) (NoPanic.normal ?_) _
                  clear hL hY hS hZB hYd hso hv2 hn2 hra
                  go_wp2_with (first
                    | (refine wpList_buildSlice rfl 26 3 1 _ rfl (chCells (i : Int)).toArray iN _ Try.underlying26 hiN.out hzN.out (by rw [hsN.out]; omega) (by rw [hsN.out]; omega) (by simp only [hsN.out]; kernel_rfl) ?_)
                    | (at_builtin; (refine wpList_app rfl (.tmp 92) (.tmp 93) 26 rfl Z.heap.size 3 iN _ 1 8 Try.underlying26 hiN.out hzN.out hsN.out hbN.out rfl (by decide) (some ⟨Z.heap.size, 0, none⟩) 1 [chCells (i : Int)] rfl (own_new1 Z (i : Int)) ra rc ((asI r).map chCells) (by rw [List.length_map, List.length_map]; rfl) (hra8.out.2.later (boxed _ _)) (fun row hr => by (obtain ⟨z, _, rfl⟩ := List.mem_map.mp hr); rfl) (fun row hr u hu => by (obtain ⟨z, _, rfl⟩ := List.mem_map.mp hr); (simp [chCells] at hu); (rw [hu]; rfl)) (by rw [List.length_map, List.length_map]; have := hra8.out.1; unfold maxLen; simp only [List.length_singleton]; omega) (by rw [List.length_map, List.length_map]; have := hra8.out.1; simp only [List.length_singleton]; omega) (by rw [World.size_alloc]; omega) ?_); intro va vc Z2 how hkp hbe hbk))
                  have hZ2 : Hid (OnS w0 W Z2 k h ha hc tm S T2 oa oa2 oc2 c n a ml lc) := hZ.out.below ((boxed Z _).trans (by rw [Nat.min_eq_left (by rw [World.size_alloc]; omega)] at hbe; exact hbe))
                  go_ret2
                  exact ⟨T2, oa2, oc2, hZ2.out.g, hZ2.out.fr, hvv.out.2, hvv.out.1, .inr ⟨i :: r, va, vc, hhit.out, by simp, own_rows how (fun row hr => by (obtain ⟨z, _, rfl⟩ := List.mem_map.mp (by simpa [asI] using hr : row ∈ ((i :: r).map fun (j : Nat) => (j : Int)).map chCells)); rfl)⟩⟩
        · have hie : i = h.length := by omega
          have hiI : ¬ (i : Int) < h.length := by omega
          subst hie
          have hE : Hid (fsB k (relT tm) h (fD D) c = none) := hL.out.fin
          go_upto_region 17 with fail
          have hS : Hid (wr.drew.heap[W.heap.size]? = some (oDg n a ml lc)) := hO.out.d
          have hOd : Hid (OnS w0 W wr.drew k h ha hc tm S T' oa oa' oc' c n a ml lc) := hO.out.below (bey_drew wr)
          have hT8 : Hid (T'.length + 1 ≤ T.length + 9 ^ (fu + 1 + 1)) := by
            have h1 := hL.out.n
            have h3 := pow9_le (m := fu) (i := h.length) hn8.out
            have := pow9 fu
            show _ ≤ _
            omega
          have hT9 : Hid (T'.length + 1 + 1 ≤ T.length + 9 ^ (fu + 1 + 1)) := by
            have h1 := hL.out.n
            have h3 := pow9_le (m := fu) (i := h.length) hn8.out
            have := pow9_two fu
            show _ ≤ _
            omega
          have hvL : Hid (∀ q ∈ T', fsB k (relT tm) h (fD q.D) q.c = none) := hL.out.v
          clear hO hL k1
          refine wp_region_noPanic ?_
          refine wp_region_held_drew (S := fun w' => w'.heap[W.heap.size]? = some (oDg n a ml lc)) (by kernel_rfl) hS.out (fun _ => ?_)
          generalize wr.drew = Q at *
          refine reg_move (i := 0) rfl (by kernel_rfl) (by kernel_rfl) (by kernel_rfl) (fun _ _ _ _ h => h) rfl (.pointer (some ⟨S, 0, none⟩)) (fun _ => rfl) hS.out ?_
          simp only [Act.put, List.getElem_toArray, List.getElem_cons_succ, List.getElem_cons_zero, List.setIfInBounds_toArray, List.set_cons_zero, List.set_cons_succ]
          refine reg_move (i := 1) rfl (by kernel_rfl) (by kernel_rfl) (by kernel_rfl) (fun _ _ _ _ h => h) rfl (.pointer (some ⟨S, 0, none⟩)) (fun _ => rfl) hS.out ?_
          simp only [Act.put, List.getElem_toArray, List.getElem_cons_succ, List.getElem_cons_zero, List.setIfInBounds_toArray, List.set_cons_zero, List.set_cons_succ]
          refine reg_move (i := 2) rfl (by kernel_rfl) (by kernel_rfl) (by kernel_rfl) (fun _ _ _ _ h => h) rfl (.pointer (some ⟨S, 0, none⟩)) (fun _ => rfl) hS.out ?_
          simp only [Act.put, List.getElem_toArray, List.getElem_cons_succ, List.getElem_cons_zero, List.setIfInBounds_toArray, List.set_cons_zero, List.set_cons_succ]
          refine reg_move (i := 3) rfl (by kernel_rfl) (by kernel_rfl) (by kernel_rfl) (fun _ _ _ _ h => h) rfl (.pointer (some ⟨S, 3, none⟩)) (fun _ => rfl) hS.out ?_
          simp only [Act.put, List.getElem_toArray, List.getElem_cons_succ, List.getElem_cons_zero, List.setIfInBounds_toArray, List.set_cons_zero, List.set_cons_succ]
          refine reg_move (i := 5) rfl (by kernel_rfl) (by kernel_rfl) (by kernel_rfl) (fun _ _ _ _ h => h) rfl (.int .i64 (D : Int)) (fun _ => rfl) hS.out ?_
          simp only [Act.put, List.getElem_toArray, List.getElem_cons_succ, List.getElem_cons_zero, List.setIfInBounds_toArray, List.set_cons_zero, List.set_cons_succ]
          refine reg_load (i := 6) rfl (by kernel_rfl) (by kernel_rfl) (by kernel_rfl) (fun _ _ _ _ h => h) rfl TD6 _ rfl W.heap.size 0 rfl [.int .i64 n, .slice a ml lc] _ (fun w' z => rng_blk z) Try.underlying75 rfl infoDg hS.out ?_
          simp only [Act.put, List.getElem_toArray, List.getElem_cons_succ, List.getElem_cons_zero, List.setIfInBounds_toArray, List.set_cons_zero, List.set_cons_succ]
          refine reg_bldQ (i := 7) rfl (by kernel_rfl) (by kernel_rfl) (by kernel_rfl) (fun _ _ _ _ h => h) rfl 110 _ rfl #[(0, .int .i64 (D : Int)), (1, .agg #[.int .i64 n, .slice a ml lc])] (by simp only [List.map_toArray, List.map_cons, List.map_nil]; rfl) _ (bld_sn _ _ _ _ _) hS.out ?_
          simp only [Act.put, List.getElem_toArray, List.getElem_cons_succ, List.getElem_cons_zero, List.setIfInBounds_toArray, List.set_cons_zero, List.set_cons_succ]
          refine reg_two (i := 4) (j := 8) (by kernel_rfl) rfl rfl rfl rfl (wpList_load1 rfl 70 _ rfl ⟨S, 3, none⟩ rfl _ Try.underlying70 rfl (.slice oa' T'.length oc') (sd_cells hOd.out.g.s).2.2.2 (wpList_nil (And.intro hS.out fun _ => ?_))) (wpList_buildSlice rfl 70 110 1 _ rfl #[.int .i64 (D : Int), .int .i64 n, .slice a ml lc] iS _ Try.underlying70 hiS.out hzS.out (by rw [hsS.out]; omega) (by rw [hsS.out]; omega) (by simp only [hsS.out]; kernel_rfl) (wpList_nil (And.intro (blk_on hS.out (boxed _ _)) fun _ => ?_)))
          · simp only [Act.put, List.getElem_toArray, List.getElem_cons_succ, List.getElem_cons_zero, List.setIfInBounds_toArray, List.set_cons_zero, List.set_cons_succ]
            refine reg_one (i := 8) (by kernel_rfl) rfl rfl (wpList_buildSlice rfl 70 110 1 _ rfl #[.int .i64 (D : Int), .int .i64 n, .slice a ml lc] iS _ Try.underlying70 hiS.out hzS.out (by rw [hsS.out]; omega) (by rw [hsS.out]; omega) (by simp only [hsS.out]; kernel_rfl) (wpList_nil (And.intro (blk_on hS.out (boxed _ _)) fun _ => ?_)))
            simp only [Act.put, List.getElem_toArray, List.getElem_cons_succ, List.getElem_cons_zero, List.setIfInBounds_toArray, List.set_cons_zero, List.set_cons_succ]
            refine reg_one (i := 9) (by kernel_rfl) rfl rfl (wpList_app1 rfl _ _ 70 rfl w0.heap.size 110 iS _ 3 40 Try.underlying70 hiS.out hzS.out hsS.out hbS.out rfl (by decide) oa' oc' (T'.map Tr.cells) (by rw [List.length_map]; rfl) hOd.out.g.o [.int .i64 (D : Int), .int .i64 n, .slice a ml lc] rfl rfl (by simp [Value.oneCell']) (by rw [List.length_map]; have := hT8.out; have := hNN.out; unfold maxLen; omega) (by rw [List.length_map]; have := hT8.out; have := hNN.out; omega) hOd.out.g.b.size fun va vc Z3 hgr => wpList_nil (And.intro ((hgr.kp _ (hOd.out.sz) fun q => hOd.out.l _ q rfl).trans hOd.out.d) fun _ => ?_))
            simp only [Act.put, List.getElem_toArray, List.getElem_cons_succ, List.getElem_cons_zero, List.setIfInBounds_toArray, List.set_cons_zero, List.set_cons_succ]
            rw [List.length_map]
            have hSA : Hid (Z3.heap[W.heap.size]? = some (oDg n a ml lc)) := (hgr.kp _ hOd.out.sz fun q => hOd.out.l _ q rfl).trans hOd.out.d
            refine reg_move (i := 10) rfl (by kernel_rfl) (by kernel_rfl) (by kernel_rfl) (fun _ _ _ _ h => h) rfl (.pointer (some ⟨S, 0, none⟩)) (fun _ => rfl) hSA.out ?_
            simp only [Act.put, List.getElem_toArray, List.getElem_cons_succ, List.getElem_cons_zero, List.setIfInBounds_toArray, List.set_cons_zero, List.set_cons_succ]
            refine reg_move (i := 11) rfl (by kernel_rfl) (by kernel_rfl) (by kernel_rfl) (fun _ _ _ _ h => h) rfl (.pointer (some ⟨S, 3, none⟩)) (fun _ => rfl) hSA.out ?_
            simp only [Act.put, List.getElem_toArray, List.getElem_cons_succ, List.getElem_cons_zero, List.setIfInBounds_toArray, List.set_cons_zero, List.set_cons_succ]
            have hs3 : Hid (Z3.heap[S]? = some (oSd k ha h.length hc tm oa' T'.length oc') ∧ Z3.heap[W.heap.size]? = some (oDg n a ml lc)) := ⟨(hgr.kp S hOd.out.g.lt hOd.out.g.n2).trans hOd.out.g.s, (hgr.kp _ hOd.out.sz fun q => hOd.out.l _ q rfl).trans hOd.out.d⟩
            have hWS : Hid (W.heap.size ≠ S) := by have := hOd.out.ls; show _ ≠ _; omega
            refine reg_one (i := 12) (by kernel_rfl) rfl rfl (wpList_store1 rfl 70 _ _ rfl ⟨S, 3, none⟩ rfl va (T'.length + 1) vc rfl (by kernel_rfl) _ (sd_cells hs3.out.1).2.2.2 (frozen_of_row _ _ _ _ _ hs3.out.1) (wpList_nil (And.intro ((heap_setCell_other _ ⟨S, 3, none⟩ _ _ hWS.out).trans hs3.out.2) fun _ => ?_)))
            simp only [Act.put, List.getElem_toArray, List.getElem_cons_succ, List.getElem_cons_zero, List.setIfInBounds_toArray, List.set_cons_zero, List.set_cons_succ]
            refine wpAnyH_done (by kernel_rfl) (NoPanic.normal ?_) _
            have hF : Hid (SdS w0 (Z3.setCell ⟨S, 3, none⟩ (.slice va (T'.length + 1) vc)) k h ha hc tm S (T' ++ [⟨D, c, n, a, ml, lc⟩]) va vc ∧ Fr Q (Z3.setCell ⟨S, 3, none⟩ (.slice va (T'.length + 1) vc)) S S oa' va) := SdS.grow hOd.out hgr hcl8.out
            have hF2 : Hid (Fr W (Z3.setCell ⟨S, 3, none⟩ (.slice va (T'.length + 1) vc)) S S oa va) := hOd.out.fr.trans hF.out.2
            generalize World.setCell _ _ _ = Z4 at *
            go_wp2
            go_ret2
            exact ⟨_, va, vc, hF.out.1, hF2.out, by (rw [List.length_append, List.length_singleton]; exact hT9.out), fun q hq => by
              rcases List.mem_append.mp hq with hq | hq
              · exact hvL.out q hq
              · simp at hq
                subst hq
                exact hE.out, .inl ⟨hE.out, rfl⟩⟩
          · simp only [Act.put, List.getElem_toArray, List.getElem_cons_succ, List.getElem_cons_zero, List.setIfInBounds_toArray, List.set_cons_zero, List.set_cons_succ]
            refine reg_one (i := 4) (by kernel_rfl) rfl rfl (wpList_load1 rfl 70 _ rfl ⟨S, 3, none⟩ rfl _ Try.underlying70 rfl (.slice oa' T'.length oc') (sd_cells (hOd.out.below (boxed _ _)).g.s).2.2.2 (wpList_nil (And.intro (blk_on hS.out (boxed _ _)) fun _ => ?_)))
            simp only [Act.put, List.getElem_toArray, List.getElem_cons_succ, List.getElem_cons_zero, List.setIfInBounds_toArray, List.set_cons_zero, List.set_cons_succ]
            refine reg_one (i := 9) (by kernel_rfl) rfl rfl (wpList_app1 rfl _ _ 70 rfl w0.heap.size 110 iS _ 3 40 Try.underlying70 hiS.out hzS.out hsS.out hbS.out rfl (by decide) oa' oc' (T'.map Tr.cells) (by rw [List.length_map]; rfl) hOd.out.g.o [.int .i64 (D : Int), .int .i64 n, .slice a ml lc] rfl rfl (by simp [Value.oneCell']) (by rw [List.length_map]; have := hT8.out; have := hNN.out; unfold maxLen; omega) (by rw [List.length_map]; have := hT8.out; have := hNN.out; omega) hOd.out.g.b.size fun va vc Z3 hgr => wpList_nil (And.intro ((hgr.kp _ (hOd.out.sz) fun q => hOd.out.l _ q rfl).trans hOd.out.d) fun _ => ?_))
            simp only [Act.put, List.getElem_toArray, List.getElem_cons_succ, List.getElem_cons_zero, List.setIfInBounds_toArray, List.set_cons_zero, List.set_cons_succ]
            rw [List.length_map]
            have hSA : Hid (Z3.heap[W.heap.size]? = some (oDg n a ml lc)) := (hgr.kp _ hOd.out.sz fun q => hOd.out.l _ q rfl).trans hOd.out.d
            refine reg_move (i := 10) rfl (by kernel_rfl) (by kernel_rfl) (by kernel_rfl) (fun _ _ _ _ h => h) rfl (.pointer (some ⟨S, 0, none⟩)) (fun _ => rfl) hSA.out ?_
            simp only [Act.put, List.getElem_toArray, List.getElem_cons_succ, List.getElem_cons_zero, List.setIfInBounds_toArray, List.set_cons_zero, List.set_cons_succ]
            refine reg_move (i := 11) rfl (by kernel_rfl) (by kernel_rfl) (by kernel_rfl) (fun _ _ _ _ h => h) rfl (.pointer (some ⟨S, 3, none⟩)) (fun _ => rfl) hSA.out ?_
            simp only [Act.put, List.getElem_toArray, List.getElem_cons_succ, List.getElem_cons_zero, List.setIfInBounds_toArray, List.set_cons_zero, List.set_cons_succ]
            have hs3 : Hid (Z3.heap[S]? = some (oSd k ha h.length hc tm oa' T'.length oc') ∧ Z3.heap[W.heap.size]? = some (oDg n a ml lc)) := ⟨(hgr.kp S hOd.out.g.lt hOd.out.g.n2).trans hOd.out.g.s, (hgr.kp _ hOd.out.sz fun q => hOd.out.l _ q rfl).trans hOd.out.d⟩
            have hWS : Hid (W.heap.size ≠ S) := by have := hOd.out.ls; show _ ≠ _; omega
            refine reg_one (i := 12) (by kernel_rfl) rfl rfl (wpList_store1 rfl 70 _ _ rfl ⟨S, 3, none⟩ rfl va (T'.length + 1) vc rfl (by kernel_rfl) _ (sd_cells hs3.out.1).2.2.2 (frozen_of_row _ _ _ _ _ hs3.out.1) (wpList_nil (And.intro ((heap_setCell_other _ ⟨S, 3, none⟩ _ _ hWS.out).trans hs3.out.2) fun _ => ?_)))
            simp only [Act.put, List.getElem_toArray, List.getElem_cons_succ, List.getElem_cons_zero, List.setIfInBounds_toArray, List.set_cons_zero, List.set_cons_succ]
            refine wpAnyH_done (by kernel_rfl) (NoPanic.normal ?_) _
            have hF : Hid (SdS w0 (Z3.setCell ⟨S, 3, none⟩ (.slice va (T'.length + 1) vc)) k h ha hc tm S (T' ++ [⟨D, c, n, a, ml, lc⟩]) va vc ∧ Fr Q (Z3.setCell ⟨S, 3, none⟩ (.slice va (T'.length + 1) vc)) S S oa' va) := SdS.grow hOd.out hgr hcl8.out
            have hF2 : Hid (Fr W (Z3.setCell ⟨S, 3, none⟩ (.slice va (T'.length + 1) vc)) S S oa va) := hOd.out.fr.trans hF.out.2
            generalize World.setCell _ _ _ = Z4 at *
            go_wp2
            go_ret2
            exact ⟨_, va, vc, hF.out.1, hF2.out, by (rw [List.length_append, List.length_singleton]; exact hT9.out), fun q hq => by
              rcases List.mem_append.mp hq with hq | hq
              · exact hvL.out q hq
              · simp at hq
                subst hq
                exact hE.out, .inl ⟨hE.out, rfl⟩⟩
end
end Go.Proofs.Ytklpifammbnldaa.pg
