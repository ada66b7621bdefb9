/- The document's own Height. -/
import Derived.Test.YtkhhkgfaakgdfaaM37
import Derived.Test.YtkhhkgfaakgdfaaM32
import Derived.Test.YtkhhkgfaakgdfaaM34
import Derived.Test.YtkhhkgfaakgdfaaM36
namespace Go.Proofs.Ytkhhkgfaakgdfaa.pg
open Go.ChangeShapes Go.WideShapes Go.ChangeAt Go.RowKit Go.Shelf
set_option linter.unusedVariables false
set_option linter.unusedSimpArgs false
set_option maxRecDepth 100000
attribute [local go_sem ↓] Go.wp_at_zero Go.wp_at_succ
def vB (h : Nat → Int) (B : Nat → Nat → Bool) (j : Nat) : Nat → Int
  | 0 => 1
  | k + 1 => if B k j = true ∧ vB h B j k < h k + 2 then h k + 2 else vB h B j k
theorem vB_in (h : Nat → Int) (B : Nat → Nat → Bool) (j : Nat) (X : Int) (hX : 1 ≤ X) : ∀ k, (∀ i, i < k → B i j = true → h i + 2 ≤ X) → 1 ≤ vB h B j k ∧ vB h B j k ≤ X ∧ ∀ i, i < k → B i j = true → h i + 2 ≤ vB h B j k
  | 0, _ => ⟨Int.le_refl _, hX, fun i hi => by omega⟩
  | k + 1, hh => by
    obtain ⟨i1, i2, i3⟩ := vB_in h B j X hX k fun i hi => hh i (by omega)
    have hx := hh k (by omega)
    unfold vB
    split
    · rename_i c
      have := hx c.1
      refine ⟨by omega, this, fun i hi hb => ?_⟩
      by_cases e : i = k
      · subst e; omega
      · have := i3 i (by omega) hb; omega
    · rename_i c
      refine ⟨i1, i2, fun i hi hb => ?_⟩
      by_cases e : i = k
      · subst e
        have : ¬ vB h B j i < h i + 2 := fun q => c ⟨hb, q⟩
        omega
      · exact i3 i (by omega) hb
theorem vB_is {d B : Nat → Nat → Bool} (hB : Tells d B) {n : Nat} {h : Nat → Int} (hh : High n (edgeB d B) h) {j : Nat} (hj : j < n) : vB h B j j = h j + 1 ∧ ∀ k, k ≤ j → 1 ≤ vB h B j k ∧ vB h B j k ≤ h j + 1 := by
  have hp := hh.pos j hj
  have key : ∀ k, k ≤ j → 1 ≤ vB h B j k ∧ vB h B j k ≤ h j + 1 ∧ ∀ i, i < k → B i j = true → h i + 2 ≤ vB h B j k := fun k hk => vB_in h B j (h j + 1) (by omega) k fun i hi hb => by
    have := hh.hb hB j i j (Nat.le_refl _) hj ((hB i j).mp hb)
    omega
  refine ⟨?_, fun k hk => ⟨(key k hk).1, (key k hk).2.1⟩⟩
  obtain ⟨i1, i2, i3⟩ := key j (Nat.le_refl _)
  rcases hh.some j hj with q | ⟨i, q1, q2, q3⟩
  · omega
  · have := i3 i q1 ((hB i j).mpr (edgeB_hb hB q2))
    omega
structure IntB (We W : World) (A : Nat) (hs : List Int) : Prop where
  a : W.heap[A]? = some (objInts hs)
  b : Below We.heap.size We W
  l : We.heap.size ≤ A
theorem IntB.later {We W W' : World} {A : Nat} {hs : List Int} (h : IntB We W A hs) (hb : Below W.heap.size W W') : IntB We W' A hs :=
  ⟨(hb.block _ (Array.getElem?_eq_some_iff.mp h.a).1).trans h.a, bthen h.b hb, h.l⟩
theorem IntB.set {We W : World} {A : Nat} {hs : List Int} (h : IntB We W A hs) (j : Nat) (v : Int) : IntB We (W.setCell ⟨A, j, none⟩ (.int .i64 v)) A (hs.set j v) := by
  rw [setCell_eq_setRow W A j _ _ _ _ h.a]
  refine ⟨?_, below_setRow h.b h.l _, h.l⟩
  rw [setRow_heap W A _ _ _ _ h.a]
  simp [List.map_set]
theorem IntB.cell {We W : World} {A : Nat} {hs : List Int} (h : IntB We W A hs) {j : Nat} (hj : j < hs.length) : W.cell? ⟨A, j, none⟩ = some (.int .i64 (hs.getD j 0)) ∧ W.frozen? ⟨A, j, none⟩ = false := by
  refine ⟨cell_of h.a ?_, frozen_of_row _ _ _ _ _ h.a⟩
  rw [List.getD_eq_getElem?_getD, List.getElem?_eq_getElem hj]
  simp [hj]
set_option maxHeartbeats 4000000 in
theorem rheight_any (l : List Ev) (la : Option Addr) (lc : Nat) (w : World) (hl : Rows w 26 la lc (l.map Ev.cells)) (hlen : l.length ≤ 256) (hrt : ∀ x ∈ l, rightP x) (B : Nat → Nat → Bool) (hB : Tells (dpf l) B) :
    Calls Try.prog 21 #[.slice la l.length lc] w fun e w' => e = .returned (.int .i64 (hfold l.length (rel (evf l) l.length).2).2) ∧ Below w.heap.size w w' := by
  have cM := rbef_any l la lc w hl hlen B hB
  have hlI : (l.length : Int) ≤ 256 := by omega
  obtain ⟨hf, hhf⟩ : ∃ hf : Nat → Int, hf = fun j => (hfold l.length (rel (evf l) l.length).2).1.getD j 0 := ⟨_, rfl⟩
  have hvb : Hid (∀ j, j < l.length → vB hf B j j = hf j + 1 ∧ ∀ k, k ≤ j → 1 ≤ vB hf B j k ∧ vB hf B j k ≤ hf j + 1) := fun j hj => by rw [hhf]; exact vB_is hB (high_rel hrt hB) hj
  have hmst : mst hf l.length = (hfold l.length (rel (evf l) l.length).2).2 := by rw [hhf]; exact mst_is hrt
  have hfp : Hid (∀ j, j < l.length → 0 ≤ hf j ∧ hf j + 1 ≤ l.length) := by
    have h := hi_rel hrt hB
    have hg := hgt_le hrt
    intro j hj
    rw [hhf]
    have := h.pos j hj
    have := h.top j hj
    simp only
    omega
  rw [← hmst]
  obtain ⟨iN, hiN, hzN, hsN, hbN⟩ := info_q infoN_u
  have iNH : Hid (Try.prog.info? 3 = some iN ∧ iN.zero = some (.int .i64 0) ∧ iN.size = 1 ∧ iN.bytes * l.length ≤ 281474976710656) := ⟨hiN, hzN, hsN, by rw [hbN]; omega⟩
  clear hl hB hrt hhf hmst hiN hzN hsN hbN
  go_enter Try.func21, Try.ntmps21
  go_wp2_with (first
    | (go_at_call 26; (with_reducible refine cM.mono ?_); rintro e w1 ⟨M, rb, rfl, hm'⟩; (have hm : Hid (RbS w w1 M l.length l.length rb B) := hm'); clear hm' cM)
    | (refine wpList_mk _ rfl _ _ 30 rfl 3 iN (.int .i64 0) Try.underlying30 iNH.out.1 iNH.out.2.1 rfl iNH.out.2.2.1 l.length rfl rfl iNH.out.2.2.2 (by omega) ?_; intro W hwh hbW hsW))
  have s0 : Hid (IntB w1 W w1.heap.size (hghTo hf l.length 0)) := ⟨by rw [hwh, hghTo_zero], hbW, Nat.le_refl _⟩
  have hm0 : mst hf 0 = 0 := rfl
  obtain ⟨A, hA⟩ : ∃ A, w1.heap.size = A := ⟨_, rfl⟩
  rw [hA] at s0 ⊢
  clear hA hwh hbW hsW
  go_loopw [4, 6] (fun m u wr => ∃ j : Nat, j ≤ l.length ∧ u = .int .i64 j ∧ m = .int .i64 (mst hf j) ∧ Hid (IntB w1 wr A (hghTo hf l.length j))) (fun _ u _ => l.length - (intOf u).toNat)
  case atStart => exact ⟨0, Nat.zero_le _, rfl, by rw [hm0], s0⟩
  case round =>
    obtain ⟨j, hj, rfl, rfl, hs⟩ := hrel
    clear s0 hm0
    by_cases hlt : j < l.length
    · have hjI : (j : Int) < l.length := by omega
      have xJ := ix_int A l.length j hlt
      have cA : Hid (_ ∧ _) := hs.out.cell (j := j) (by rw [hghTo_len]; exact hlt)
      have nx : Hid (∀ W', W' = wr.setCell ⟨A, j, none⟩ (.int .i64 1) → IntB w1 W' A ((hghTo hf l.length j).set j (vB hf B j 0))) := fun W' e => by rw [e]; exact hs.out.set j 1
      clear hs
      go_wp2_with (first
        | (refine wpList_puti rfl 3 _ _ rfl ⟨A, j, none⟩ rfl _ rfl (by kernel_rfl) _ cA.out.1 cA.out.2 ?_; intro W2 hW2; (have s2 : Hid (IntB w1 W2 A ((hghTo hf l.length j).set j (vB hf B j 0))) := nx.out W2 hW2); clear hW2 nx cA))
      go_loopw [7] (fun u wq => ∃ k : Nat, k ≤ j ∧ u = .int .i64 k ∧ Hid (IntB w1 wq A ((hghTo hf l.length j).set j (vB hf B j k)))) (fun u _ => j - (intOf u).toNat)
      case atStart => exact ⟨0, Nat.zero_le _, rfl, s2⟩
      case round =>
        rename World => wq
        obtain ⟨k, hk, rfl, hs3⟩ := hrel
        clear s2
        have hll : ((hghTo hf l.length j).set j (vB hf B j k)).length = l.length := by rw [List.length_set, hghTo_len]
        have cJ := hs3.out.cell (j := j) (by rw [hll]; exact hlt)
        have eJ : ((hghTo hf l.length j).set j (vB hf B j k)).getD j 0 = vB hf B j k := by rw [getD_set0 _ _ _ (by rw [hghTo_len]; exact hlt), if_pos rfl]
        rw [eJ] at cJ
        by_cases hkt : k < j
        · have hkI : (k : Int) < j := by omega
          have hmW := hm.out.m.later hs3.out.b
          have xA := ix_row M l.length k (by omega)
          have rA := hmW.row (i := k) (by omega) (by omega)
          have xR := ix_bool (rb k) l.length j hlt
          have cR := (hmW.cell (i := k) (j := j) (by omega) hlt).1
          have cI := hs3.out.cell (j := k) (by rw [hll]; omega)
          have eI : ((hghTo hf l.length j).set j (vB hf B j k)).getD k 0 = hf k + 1 := by rw [getD_set0 _ _ _ (by rw [hghTo_len]; exact hlt), if_neg (by omega), hghTo_get (by omega), if_pos (by omega)]
          rw [eI] at cI
          have xI := ix_int A l.length k (by omega)
          have hfk := hfp.out k (by omega)
          have hvk := ((hvb.out j hlt).2 k (by omega))
          have hfj := hfp.out j hlt
          have hmore : Hid (vB hf B j (k + 1) = if B k j = true ∧ vB hf B j k < hf k + 2 then hf k + 2 else vB hf B j k) := rfl
          have e2 : hf k + 2 = hf k + 1 + 1 := by omega
          rw [e2] at hmore
          have hw3 : wrap64 (hf k + 1 + 1) = hf k + 1 + 1 := by simp only [wrap64]; omega
          have nx : Hid (∀ (v : Int) nq, IntB w1 ((wq.drewN nq).setCell ⟨A, j, none⟩ (.int .i64 v)) A ((hghTo hf l.length j).set j v)) := fun v nq => by
            have := (hs3.out.later (below_drewN (Below.refl _ _) nq)).set j v
            rwa [List.set_set] at this
          obtain ⟨P, hP⟩ : ∃ P, B k j = P := ⟨_, rfl⟩
          rw [hP] at cR hmore
          have cI1 := cI.1
          have cJ1 := cJ.1
          have cJ2 := cJ.2
          clear hmW eI eJ cI cJ hll e2 hP
          generalize vB hf B j k = v at *
          generalize hf k = hi at *
          cases P with
          | false =>
            have hN : Hid (vB hf B j (k + 1) = v) := by show _ = _; rw [hmore.out, if_neg (fun q => Bool.false_ne_true q.1)]
            clear hmore
            go_wp2_with fail
            go_quiet (fail)
            rename_i nq
            go_wp2
            go_roundw
            case rel => exact ⟨k + 1, by omega, by go_num, by rw [hN.out]; exact hs3.out.later (below_drewN (Below.refl _ _) nq)⟩
            case measure => simp [intOf]; omega
          | true =>
            by_cases hv : v < hi + 1 + 1
            · have hN : Hid (vB hf B j (k + 1) = hi + 1 + 1) := by show _ = _; rw [hmore.out, if_pos ⟨rfl, hv⟩]
              clear hmore
              go_wp2_with fail
              go_quiet (fail)
              rename_i nq
              go_wp2
              go_roundw
              case rel => exact ⟨k + 1, by omega, by go_num, by rw [hN.out]; exact nx.out _ nq⟩
              case measure => simp [intOf]; omega
            · have hN : Hid (vB hf B j (k + 1) = v) := by show _ = _; rw [hmore.out, if_neg (fun q => hv q.2)]
              have hd : decide (v < hi + 1 + 1) = false := by simpa using hv
              clear hmore hv
              go_wp2_with fail
              go_quiet (fail)
              rename_i nq
              go_wp2
              go_roundw
              case rel => exact ⟨k + 1, by omega, by go_num, by rw [hN.out]; exact hs3.out.later (below_drewN (Below.refl _ _) nq)⟩
              case measure => simp [intOf]; omega
        · have hk2 : k = j := by omega
          subst hk2
          have hvj := (hvb.out k hlt).1
          have s5 : Hid (IntB w1 wq A (hghTo hf l.length (k + 1))) := by
            have := hs3.out
            rwa [hghTo_more hlt hvj] at this
          have cJ1 : wq.cell? ⟨A, k, none⟩ = some (.int .i64 (hf k + 1)) := by rw [cJ.1, hvj]
          have hmm : Hid (mst hf (k + 1) = if mst hf k < hf k + 1 then hf k + 1 else mst hf k) := rfl
          clear cJ eJ hll hvj hs3
          obtain ⟨mm, hmj⟩ : ∃ mm, mst hf k = mm := ⟨_, rfl⟩
          have hmm2 : Hid (mst hf (k + 1) = if mm < hf k + 1 then hf k + 1 else mm) := by show _ = _; rw [hmm.out, hmj]
          rw [hmj]
          clear hmm hmj
          generalize hf k + 1 = hv at *
          by_cases hmv : mm < hv
          · have hN : Hid (mst hf (k + 1) = hv) := by show _ = _; rw [hmm2.out, if_pos hmv]
            clear hmm2
            go_wp2
            go_roundw
            case rel => exact ⟨k + 1, by omega, by go_num, by rw [hN.out], s5⟩
            case measure => simp [intOf]; omega
          · have hN : Hid (mst hf (k + 1) = mm) := by show _ = _; rw [hmm2.out, if_neg hmv]
            clear hmm2
            go_wp2
            go_roundw
            case rel => exact ⟨k + 1, by omega, by go_num, by rw [hN.out], s5⟩
            case measure => simp [intOf]; omega
    · have hj2 : j = l.length := by omega
      subst hj2
      go_wp2
      go_ret
      exact ⟨rfl, bthen hm.out.b hs.out.b⟩
end Go.Proofs.Ytkhhkgfaakgdfaa.pg
/- OrderClocks. -/
namespace Go.Proofs.Ytkhhkgfaakgdfaa.pg
open Go.ChangeShapes Go.WideShapes Go.ChangeAt Go.RowKit Go.Shelf
set_option linter.unusedVariables false
set_option linter.unusedSimpArgs false
set_option maxRecDepth 100000
attribute [local go_sem ↓] Go.wp_at_zero Go.wp_at_succ
theorem neK_oc (x : Ck) : ∀ wx, (binOp .neq 40 (.agg x.cells.toArray) (.agg x.cells.toArray)).run Try.prog wx = .ok (.bool false) wx := fun wx => by
  have := run_neK x x wx
  rw [(eqK_iff x x).mpr rfl] at this
  exact this
theorem run_inP (a b : Int) (w : World) : (Op.equalIn 10000 41 (.agg #[.int .i64 a, .int .i64 b]) (.agg #[.int .i64 a, .int .i64 b])).run Try.prog w = .ok true w := by
  obtain ⟨i, hi⟩ := infoI_some
  have hc1 : Try.prog.cellsOf 3 = 1 := by kernel_rfl
  have u1 := Try.underlying3
  have a1 := Try.isAgg3
  have z1 := Try.sizeOf3
  rw [show (10000 : Nat) = 9999 + 1 from rfl, run_equalIn_array w 9999 _ _ Try.underlying41 hi, hc1]
  simp only [List.range, List.range.loop, Op.eqItems]
  go_simp
theorem neP_oc (p : Nat × Nat) : ∀ wx, (binOp .neq 41 (.agg (edg p).toArray) (.agg (edg p).toArray)).run Try.prog wx = .ok (.bool false) wx := fun wx => by
  have : (binOp .neq 41 (.agg #[.int .i64 (p.1 : Int), .int .i64 (p.2 : Int)]) (.agg #[.int .i64 (p.1 : Int), .int .i64 (p.2 : Int)])).run Try.prog wx = .ok (.bool false) wx := by
    rw [run_neq_struct, run_inP]; rfl
  exact this
theorem ck_row3 {w : World} {lo n : Nat} {a : Option Addr} {cap : Nat} {ev : Nat → Ev} (h : OwnL w lo 40 6 a cap ((rel ev n).1.map Ck.cells)) (k : Nat) (hk : k < n) :
    ∃ b o, (∀ wx, (Instr.indexAt 23 (.slice a n cap) (.int .i64 (k : Int))).run Try.prog wx = .ok (.pointer (some ⟨b, o, none⟩)) wx) ∧ b < w.heap.size ∧ w.rangeAt b o ((rel ev n).1.getD k zeroK).cells := by
  obtain ⟨b, o, h1, h2, h3⟩ := ck_row h k _ (rel_get ev n k hk)
  rw [rel_len] at h1
  exact ⟨b, o, h1, (blk_lt h b h2).2, h3⟩
set_option maxHeartbeats 1000000 in
theorem edges_err (l : List Ev) (la : Option Addr) (lc : Nat) (w : World) (hl : Rows w 26 la lc (l.map Ev.cells)) (c : Int) (hc : checkP l c) (h0 : c = 2 ∨ c = 7) :
    Calls Try.prog 12 #[.slice la l.length lc] w fun e w' => e = .returned (.tuple #[.slice none 0 0, .int .i64 c]) ∧ Below w.heap.size w w' := by
  have c1 := look_bad l la lc (.slice none 0 0) w hl c hc h0
  have c2 : ∀ wx, Calls Try.prog 43 #[.slice none 0 0, .func (.func 44) #[] #[]] wx fun e w' => (∃ v, e = .returned v) ∧ w' = wx := fun wx => sort_nil wx
  have hx : ∀ w1 : World, (w1.alloc (.cells #[.slice none 0 0, .slice none 0 0, .slice none 0 0] 78)).cell? ⟨w1.heap.size, 2, none⟩ = some (.slice none 0 0) := fun w1 => cell_of (heap_alloc_new _ _) rfl
  clear hl hc h0
  go_enter Try.func12, Try.ntmps12
  go_wp2_with (first
    | (go_at_call 42; (with_reducible refine c1.mono ?_); rintro e w1 ⟨rfl, hb'⟩; (have hb : Hid (Below w.heap.size w w1) := hb'); (have hx1 := hx w1); clear hb' c1)
    | (refine wpList_store_new rfl 78 _ _ rfl rfl _ _ rfl (by kernel_rfl) rfl (one3 _ _ _ _ _ _ _ _ _) ?_)
    | (go_at_call 43; (with_reducible refine (c2 _).mono ?_); rintro e w2 ⟨⟨v, rfl⟩, rfl⟩))
  go_ret2
  exact ⟨rfl, bthen hb.out (boxed _ _)⟩
set_option maxHeartbeats 2000000 in
theorem oclocks_bad (l : List Ev) (la : Option Addr) (lc : Nat) (w : World) (hl : Rows w 26 la lc (l.map Ev.cells)) (c : Int) (hc : checkP l c) (h7 : c = 2 ∨ c = 7) : Calls Try.prog 3 #[.slice la l.length lc] w fun e w' => e = .returned (.bool true) ∧ Below w.heap.size w w' := by
  have hlH : Hid (Rows w 26 la lc (l.map Ev.cells)) := hl
  have cS : ∀ wx, Calls Try.prog 16 #[] wx fun e w' => e = .returned (.bool true) ∧ Below wx.heap.size wx w' := fun wx => speaks12_any wx
  have cK : ∀ wx, Below w.heap.size w wx → Calls Try.prog 15 #[.slice la l.length lc] wx fun e w' => e = .returned (.int .i64 c) ∧ Below wx.heap.size wx w' := fun wx hb => rcheck_any l la lc wx (hlH.out.later hb) c hc
  have cC := clocks_bad l la lc w hl c hc h7
  have cE : ∀ wx, Below w.heap.size w wx → Calls Try.prog 12 #[.slice la l.length lc] wx fun e w' => e = .returned (.tuple #[.slice none 0 0, .int .i64 c]) ∧ Below wx.heap.size wx w' := fun wx hb => edges_err l la lc wx (hlH.out.later hb) c hc h7
  have cL : ∀ wx, Below w.heap.size w wx → Calls Try.prog 13 #[.slice la l.length lc] wx fun e w' => e = .returned (.tuple #[.slice none 0 0, .int .i64 c]) ∧ Below wx.heap.size wx w' := fun wx hb => lasts_bad l la lc wx (hlH.out.later hb) c hc h7
  have cH : ∀ wx, Below w.heap.size w wx → Calls Try.prog 14 #[.slice la l.length lc] wx fun e w' => e = .returned (.tuple #[.int .i64 0, .int .i64 c]) ∧ Below wx.heap.size wx w' := fun wx hb => height_bad l la lc wx (hlH.out.later hb) c hc h7
  clear hl hc
  rcases h7 with rfl | rfl
  all_goals
    go_enter Try.func3, Try.ntmps3
    go_wp2_with (first
      | (go_at_call 11; (with_reducible refine cC.mono ?_); rintro e w1 ⟨rfl, hb1⟩; (have hB : Hid (Below w.heap.size w w1) := hb1); clear hb1 cC)
      | (go_at_call 12; (with_reducible refine (cE _ hB.out).mono ?_); rintro e w2 ⟨rfl, hb2⟩; (have hB : Hid (Below w.heap.size w w2) := bthen hB.out hb2); clear hb2 cE)
      | (go_at_call 13; (with_reducible refine (cL _ hB.out).mono ?_); rintro e w3 ⟨rfl, hb3⟩; (have hB : Hid (Below w.heap.size w w3) := bthen hB.out hb3); clear hb3 cL)
      | (go_at_call 14; (with_reducible refine (cH _ hB.out).mono ?_); rintro e w4 ⟨rfl, hb4⟩; (have hB : Hid (Below w.heap.size w w4) := bthen hB.out hb4); clear hb4 cH)
      | (go_at_call 15; (with_reducible refine (cK _ hB.out).mono ?_); rintro e w5 ⟨rfl, hb5⟩; (have hB : Hid (Below w.heap.size w w5) := bthen hB.out hb5); clear hb5 cK)
      | (go_at_call 16; (with_reducible refine (cS _).mono ?_); rintro e w6 ⟨rfl, hb6⟩; (have hB6 : Hid (Below w.heap.size w w6) := bthen hB.out hb6)))
    go_ret
    exact ⟨rfl, hB6.out⟩
/-- What package order told, kept. -/
structure OcP (w W : World) (l : List Ev) (ca : Option Addr) (cc : Nat) (D : List (Nat × Nat)) (da : Option Addr) (dc : Nat) (L : List Int) (va : Option Addr) (vc : Nat) : Prop where
  c : OwnL W w.heap.size 40 6 ca cc ((rel (evf l) l.length).1.map Ck.cells)
  d : Rows W 2 da dc (D.map edg)
  m : Rows W 1 va vc (L.map chCells)
  b : Below w.heap.size w W
theorem OcP.later {w W W' : World} {l : List Ev} {ca : Option Addr} {cc : Nat} {D : List (Nat × Nat)} {da : Option Addr} {dc : Nat} {L : List Int} {va : Option Addr} {vc : Nat} (h : OcP w W l ca cc D da dc L va vc) (hb : Below W.heap.size W W') : OcP w W' l ca cc D da dc L va vc :=
  ⟨own_keep h.c fun b hb' => hb.block b (blk_lt h.c b hb').2, h.d.later hb, h.m.later hb, bthen h.b hb⟩
/-- And what the document's own says. -/
structure OcF (w W : World) (l : List Ev) (ca : Option Addr) (cc : Nat) (D : List (Nat × Nat)) (da : Option Addr) (dc : Nat) (L : List Int) (va : Option Addr) (vc : Nat) (xa : Option Addr) (xc : Nat) (ya : Option Addr) (yc : Nat) : Prop where
  p : OcP w W l ca cc D da dc L va vc
  c : OwnL W w.heap.size 40 6 xa xc ((rel (evf l) l.length).1.map Ck.cells)
  d : Rows W 2 ya yc (D.map edg)
theorem OcF.later {w W W' : World} {l : List Ev} {ca : Option Addr} {cc : Nat} {D : List (Nat × Nat)} {da : Option Addr} {dc : Nat} {L : List Int} {va : Option Addr} {vc : Nat} {xa : Option Addr} {xc : Nat} {ya : Option Addr} {yc : Nat} (h : OcF w W l ca cc D da dc L va vc xa xc ya yc) (hb : Below W.heap.size W W') : OcF w W' l ca cc D da dc L va vc xa xc ya yc :=
  ⟨h.p.later hb, own_keep h.c fun b hb' => hb.block b (blk_lt h.c b hb').2, h.d.later hb⟩
set_option maxHeartbeats 4000000 in
theorem oclocks_in (l : List Ev) (la : Option Addr) (lc : Nat) (w : World) (hl : Rows w 26 la lc (l.map Ev.cells)) (hlen : l.length ≤ 256) (hrt : ∀ x ∈ l, rightP x) : Calls Try.prog 3 #[.slice la l.length lc] w fun e w' => e = .returned (.bool true) ∧ Below w.heap.size w w' := by
  have hlI : (l.length : Int) ≤ 256 := by omega
  have hlH : Hid (Rows w 26 la lc (l.map Ev.cells)) := hl
  have hrtH : Hid (∀ x ∈ l, rightP x) := hrt
  obtain ⟨B, hB⟩ := tells_some (dpf l)
  have hBH : Hid (Tells (dpf l) B) := hB
  have cS : ∀ wx, Calls Try.prog 16 #[] wx fun e w' => e = .returned (.bool true) ∧ Below wx.heap.size wx w' := fun wx => speaks12_any wx
  have cK : ∀ wx, Below w.heap.size w wx → Calls Try.prog 15 #[.slice la l.length lc] wx fun e w' => e = .returned (.int .i64 0) ∧ Below wx.heap.size wx w' := fun wx hb => rcheck_any l la lc wx (hlH.out.later hb) 0 (.inr (.inr ⟨hlen, hrtH.out, rfl⟩))
  obtain ⟨D, hD⟩ : ∃ D, D = eAll (edgeB (dpf l) B) l.length l.length := ⟨_, rfl⟩
  obtain ⟨L, hL⟩ : ∃ L, L = lst (fun i => lastB B i l.length) l.length := ⟨_, rfl⟩
  obtain ⟨H, hH⟩ : ∃ H, H = (hfold l.length (rel (evf l) l.length).2).2 := ⟨_, rfl⟩
  have cC := clocks_ok l la lc w hl hlen hrt
  have cE : ∀ wx, Below w.heap.size w wx → Calls Try.prog 12 #[.slice la l.length lc] wx fun e w' => ∃ da dc, e = .returned (.tuple #[.slice da D.length dc, .int .i64 0]) ∧ Rows w' 2 da dc (D.map edg) ∧ Below wx.heap.size wx w' := fun wx hb => (edges_ok l la lc wx (hlH.out.later hb) hlen hrtH.out).mono fun e w' ⟨da, dc, E, he, hp, hs, hr, hb⟩ => by
    have : E = D := by rw [hD]; exact edges_same hrtH.out hBH.out hp hs
    subst this
    exact ⟨da, dc, he, hr, hb⟩
  have cL : ∀ wx, Below w.heap.size w wx → Calls Try.prog 13 #[.slice la l.length lc] wx fun e w' => ∃ va vc, e = .returned (.tuple #[.slice va L.length vc, .int .i64 0]) ∧ Rows w' 1 va vc (L.map chCells) ∧ Below wx.heap.size wx w' := fun wx hb => (lasts_ok l la lc wx (hlH.out.later hb) hlen hrtH.out).mono fun e w' ⟨va, vc, he, hs⟩ => by
    rw [lasts_same hlen hrtH.out hBH.out, ← hL] at he hs
    exact ⟨va, vc, he, hs.rows, hs.be⟩
  have cH : ∀ wx, Below w.heap.size w wx → Calls Try.prog 14 #[.slice la l.length lc] wx fun e w' => e = .returned (.tuple #[.int .i64 H, .int .i64 0]) ∧ Below wx.heap.size wx w' := fun wx hb => by rw [hH]; exact height_ok l la lc wx (hlH.out.later hb) hlen hrtH.out
  have rC : ∀ wx, Below w.heap.size w wx → Calls Try.prog 17 #[.slice la l.length lc] wx fun e w' => ∃ va vc, e = .returned (.slice va l.length vc) ∧ OwnL w' wx.heap.size 40 6 va vc ((rel (evf l) l.length).1.map Ck.cells) ∧ Below wx.heap.size wx w' := fun wx hb => rclocks_any l la lc wx (hlH.out.later hb) hlen hrtH.out B hBH.out
  have rE : ∀ wx, Below w.heap.size w wx → Calls Try.prog 18 #[.slice la l.length lc] wx fun e w' => ∃ va vc, e = .returned (.slice va D.length vc) ∧ Rows w' 2 va vc (D.map edg) ∧ Below wx.heap.size wx w' := fun wx hb => by rw [hD]; exact redges_any l la lc wx (hlH.out.later hb) hlen B hBH.out
  have rL : ∀ wx, Below w.heap.size w wx → Calls Try.prog 20 #[.slice la l.length lc] wx fun e w' => ∃ va vc, e = .returned (.slice va L.length vc) ∧ Rows w' 1 va vc (L.map chCells) ∧ Below wx.heap.size wx w' := fun wx hb => by rw [hL]; exact rlasts_any l la lc wx (hlH.out.later hb) hlen B hBH.out
  have rH : ∀ wx, Below w.heap.size w wx → Calls Try.prog 21 #[.slice la l.length lc] wx fun e w' => e = .returned (.int .i64 H) ∧ Below wx.heap.size wx w' := fun wx hb => by rw [hH]; exact rheight_any l la lc wx (hlH.out.later hb) hlen hrtH.out B hBH.out
  have cI : ∀ va vc ua uc wx, Rows wx 1 va vc (L.map chCells) → Rows wx 1 ua uc (L.map chCells) → Calls Try.prog 19 #[.slice va L.length vc, .slice ua L.length uc] wx fun e w' => e = .returned (.bool true) ∧ Below wx.heap.size wx w' := fun va vc ua uc wx h1 h2 => sameInts_u L va ua vc uc wx h1 h2
  have hDl : (D.length : Int) ≤ 65536 := by
    have h1 := eAll_len (edgeB (dpf l) B) l.length l.length
    have : l.length * l.length ≤ 256 * 256 := Nat.mul_le_mul hlen hlen
    rw [← hD] at h1
    omega
  have huK : Hid (Try.prog.underlying 40 = _) := Try.underlying40
  have huP : Hid (Try.prog.underlying 41 = _) := Try.underlying41
  have hiP : Hid ((Try.prog.info? 41).map (·.size) = some 2) := by show _ = _; kernel_rfl
  clear hl hrt hB hD hL hH
  go_enter Try.func3, Try.ntmps3
  go_wp2_with (first
    | (go_at_call 11; (with_reducible refine cC.mono ?_); rintro e w1 ⟨ca, cc, rfl, oc', hb1⟩; (have h1 : Hid (OwnL w1 w.heap.size 40 6 ca cc ((rel (evf l) l.length).1.map Ck.cells) ∧ Below w.heap.size w w1) := ⟨oc', hb1⟩); clear oc' hb1 cC)
    | (go_at_call 12; (with_reducible refine (cE _ h1.out.2).mono ?_); rintro e w2 ⟨da, dc, rfl, hr2, hb2⟩; (have h2 : Hid (OcP w w2 l ca cc D da dc [] none 0) := ⟨own_keep h1.out.1 fun b hb' => hb2.block b (blk_lt h1.out.1 b hb').2, hr2, rows_nil1 _, bthen h1.out.2 hb2⟩); clear hr2 hb2 cE h1)
    | (go_at_call 13; (with_reducible refine (cL _ h2.out.b).mono ?_); rintro e w3 ⟨va, vc, rfl, hr3, hb3⟩; (have hp : Hid (OcP w w3 l ca cc D da dc L va vc) := ⟨(h2.out.later hb3).c, (h2.out.later hb3).d, hr3, (h2.out.later hb3).b⟩); clear hr3 hb3 cL h2)
    | (go_at_call 14; (with_reducible refine (cH _ hp.out.b).mono ?_); rintro e w4 ⟨rfl, hb4⟩; (have hp : Hid (OcP w w4 l ca cc D da dc L va vc) := hp.out.later hb4); clear hb4 cH)
    | (go_at_call 15; (with_reducible refine (cK _ hp.out.b).mono ?_); rintro e w5 ⟨rfl, hb5⟩; (have hp : Hid (OcP w w5 l ca cc D da dc L va vc) := hp.out.later hb5); clear hb5 cK)
    | (go_at_call 16; (with_reducible refine (cS _).mono ?_); rintro e w6 ⟨rfl, hb6⟩; (have hp : Hid (OcP w w6 l ca cc D da dc L va vc) := hp.out.later hb6); clear hb6)
    | (go_at_call 17; (with_reducible refine (rC _ hp.out.b).mono ?_); rintro e w7 ⟨xa, xc, rfl, ox, hb7⟩; (have hp : Hid (OcP w w7 l ca cc D da dc L va vc) := hp.out.later hb7); (have hx : Hid (OwnL w7 w.heap.size 40 6 xa xc ((rel (evf l) l.length).1.map Ck.cells)) := own_mono_q ox (by have := hp.out.b.size; first | exact (OcP.b ‹Hid (OcP w w6 l ca cc D da dc L va vc)›.out).size | omega)); clear ox hb7 rC)
    | (go_at_call 18; (with_reducible refine (rE _ hp.out.b).mono ?_); rintro e w8 ⟨ya, yc, rfl, hr8, hb8⟩; (have hf : Hid (OcF w w8 l ca cc D da dc L va vc xa xc ya yc) := ⟨hp.out.later hb8, own_keep hx.out fun b hb' => hb8.block b (blk_lt hx.out b hb').2, hr8⟩); clear hr8 hb8 rE hp hx))
  go_loopw [14] (fun u wr => ∃ k : Nat, k ≤ l.length ∧ u = .int .i64 k ∧ Hid (OcF w wr l ca cc D da dc L va vc xa xc ya yc)) (fun u _ => l.length - (intOf u).toNat)
  case atStart => exact ⟨0, Nat.zero_le _, rfl, hf⟩
  case round =>
    obtain ⟨k, hk, rfl, hs⟩ := hrel
    clear hf
    by_cases hlt : k < l.length
    · have hkI : (k : Int) < l.length := by omega
      obtain ⟨kb, ko, kx, kl, kr⟩ := ck_row3 hs.out.p.c k hlt
      obtain ⟨jb, jo, jx, jl, jr⟩ := ck_row3 hs.out.c k hlt
      have hne2 := neK_oc ((rel (evf l) l.length).1.getD k zeroK)
      have z1 : ∀ s : Cls (Bey wr), s.w.rangeAt kb ko ((rel (evf l) l.length).1.getD k zeroK).cells := fun s => range_block kr (s.h.block kb kl)
      have z2 : ∀ s : Cls (Bey wr), s.w.rangeAt jb jo ((rel (evf l) l.length).1.getD k zeroK).cells := fun s => range_block jr (s.h.block jb jl)
      have hneB := bey_some wr
      clear kl kr jl jr
      generalize (rel (evf l) l.length).1.getD k zeroK = x at *
      go_wp2_with fail
      refine wp_region_cls (Bey wr) (by kernel_rfl) (by kernel_rfl) (bey_drew wr) ?_
      repeat (first
        | (go_big_quiet_want; (first | refine quiet_load_mid 40 _ rfl kb ko rfl _ _ z1 huK.out rfl infoK ?_ | refine quiet_load_mid 40 _ rfl jb jo rfl _ _ z2 huK.out rfl infoK ?_); (simp only [Act.put, List.setIfInBounds_toArray, List.set_cons_zero, List.set_cons_succ]); go_big_quiet_on)
        | go_big_quiet_step (fail))
      refine wpQuiet_nil ?_
      intro _ hw'
      obtain ⟨sq2, hw''⟩ := hw'
      subst hw''
      clear kx jx hne2 hneB z1 z2
      go_wp2
      go_roundw
      case rel => exact ⟨k + 1, by omega, by go_num, hs.out.later sq2.h⟩
      case measure => simp [intOf]; omega
    · have hk2 : k = l.length := by omega
      subst hk2
      clear hlt hk
      go_wp2_with fail
      go_loopw [15] (fun u wq => ∃ k : Nat, k ≤ D.length ∧ u = .int .i64 k ∧ Hid (OcF w wq l ca cc D da dc L va vc xa xc ya yc)) (fun u _ => D.length - (intOf u).toNat)
      case atStart => exact ⟨0, Nat.zero_le _, rfl, hs⟩
      case round =>
        rename World => wq
        obtain ⟨k, hk, rfl, ht⟩ := hrel
        clear hs
        by_cases hlt : k < D.length
        · have hkI : (k : Int) < D.length := by omega
          obtain ⟨p, hp, hpm⟩ := get_lt D k hlt
          obtain ⟨kb, ko, kx, kl, kr⟩ := ht.out.p.d.ix 27 41 Try.underlying27 (by kernel_rfl) (fun wx => Try.sizeOf41 wx) k (row := edg p) (by simp [hp])
          obtain ⟨jb, jo, jx, jl, jr⟩ := ht.out.d.ix 27 41 Try.underlying27 (by kernel_rfl) (fun wx => Try.sizeOf41 wx) k (row := edg p) (by simp [hp])
          rw [List.length_map] at kx jx
          have hne2 := neP_oc p
          have z1 : ∀ s : Cls (Bey wq), s.w.rangeAt kb ko (edg p) := fun s => range_block kr (s.h.block kb kl)
          have z2 : ∀ s : Cls (Bey wq), s.w.rangeAt jb jo (edg p) := fun s => range_block jr (s.h.block jb jl)
          have hneB := bey_some wq
          clear kl kr jl jr hp hpm
          go_wp2_with fail
          refine wp_region_cls (Bey wq) (by kernel_rfl) (by kernel_rfl) (bey_drew wq) ?_
          repeat (first
            | (go_big_quiet_want; (first | refine quiet_load_mid 41 _ rfl kb ko rfl _ _ z1 huP.out rfl hiP.out ?_ | refine quiet_load_mid 41 _ rfl jb jo rfl _ _ z2 huP.out rfl hiP.out ?_); (simp only [Act.put, List.setIfInBounds_toArray, List.set_cons_zero, List.set_cons_succ]); go_big_quiet_on)
            | go_big_quiet_step (fail))
          refine wpQuiet_nil ?_
          intro _ hw'
          obtain ⟨sq2, hw''⟩ := hw'
          subst hw''
          clear kx jx hne2 hneB z1 z2
          go_wp2
          go_roundw
          case rel => exact ⟨k + 1, by omega, by go_num, ht.out.later sq2.h⟩
          case measure => simp [intOf]; omega
        · have hk2 : k = D.length := by omega
          subst hk2
          go_wp2_with (first
            | (go_at_call 20; (with_reducible refine (rL _ ht.out.p.b).mono ?_); rintro e w10 ⟨ua, uc, rfl, hr10, hb10⟩; (have hu : Hid (OcF w w10 l ca cc D da dc L va vc xa xc ya yc) := ht.out.later hb10); (have hur : Hid (Rows w10 1 ua uc (L.map chCells)) := hr10); clear hr10 hb10 rL)
            | (go_at_call 19; (with_reducible refine (cI _ _ _ _ _ hu.out.p.m hur.out).mono ?_); rintro e w11 ⟨rfl, hb11⟩; (have hv : Hid (Below w.heap.size w w11) := bthen hu.out.p.b hb11); clear hb11 cI)
            | (go_at_call 21; (with_reducible refine (rH _ hv.out).mono ?_); rintro e w12 ⟨rfl, hb12⟩; (have hv2 : Hid (Below w.heap.size w w12) := bthen hv.out hb12); clear hb12 rH))
          go_ret
          exact ⟨rfl, hv2.out⟩
theorem oclocks_any (l : List Ev) (la : Option Addr) (lc : Nat) (w : World) (hl : EvsIn w la lc l) : Calls Try.prog 3 #[.slice la l.length lc] w fun e w' => e = .returned (.bool true) ∧ Below w.heap.size w w' := by
  obtain ⟨c, hc⟩ := check_ex l
  by_cases h0 : c = 0
  · subst h0
    obtain ⟨hlen, hrt⟩ : l.length ≤ 256 ∧ ∀ x ∈ l, rightP x := by rcases hc with ⟨_, q⟩ | ⟨_, _, q⟩ | ⟨a, b, _⟩ <;> first | exact ⟨a, b⟩ | omega
    exact oclocks_in l la lc w hl.1 hlen hrt
  · exact oclocks_bad l la lc w hl.1 c hc (by rcases hc with ⟨_, q⟩ | ⟨_, _, q⟩ | ⟨_, _, q⟩ <;> omega)
end Go.Proofs.Ytkhhkgfaakgdfaa.pg
