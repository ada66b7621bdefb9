/- How many orders there are: the document's Count. -/
import Derived.Test.YtkadlopcomjonaaM22
import Derived.Test.YtkadlopcomjonaaM16
import Derived.Test.YtkadlopcomjonaaM17
namespace Go.Proofs.Ytkadlopcomjonaa.pg
open Go.ChangeShapes Go.WideShapes Go.ChangeAt Go.RowKit Go.Shelf
set_option linter.unusedVariables false
set_option linter.unusedSimpArgs false
set_option maxRecDepth 100000
set_option maxHeartbeats 1000000 in
theorem rcount_bad (l : List Ev) (la : Option Addr) (lc : Nat) (most : Int) (w : World) (hl : Rows w 26 la lc (l.map Ev.cells)) (c : Int) (hc : checkP l c) (h0 : c = 2 ∨ c = 7) :
    Calls Try.prog 30 #[.slice la l.length lc, .int .i64 most] w fun e w' => e = .returned (.tuple #[.int .i64 0, .int .i64 c]) ∧ Below w.heap.size w w' := by
  have c1 := rcheck_any l la lc w hl c hc
  have d : (c != 0) = true := by rcases h0 with rfl | rfl <;> rfl
  clear hl hc h0
  go_enter Try.func30, Try.ntmps30
  go_wp2_with (go_at_call 13; (with_reducible refine c1.mono ?_); rintro e w1 ⟨rfl, hb1⟩; (have hbH : Hid (Below w.heap.size w w1) := hb1); clear hb1)
  go_ret2
  exact ⟨rfl, hbH.out⟩
set_option maxHeartbeats 1000000 in
theorem rcount_arg (l : List Ev) (la : Option Addr) (lc : Nat) (most : Int) (w : World) (hl : Rows w 26 la lc (l.map Ev.cells)) (hc : checkP l 0) (hm : ¬ (1 ≤ most ∧ most ≤ 10000)) :
    Calls Try.prog 30 #[.slice la l.length lc, .int .i64 most] w fun e w' => e = .returned (.tuple #[.int .i64 0, .int .i64 1]) ∧ Below w.heap.size w w' := by
  have c1 := rcheck_any l la lc w hl 0 hc
  have hm2 : most < 1 ∨ (¬ most < 1 ∧ 10000 < most) := by omega
  clear hl hc hm
  rcases hm2 with d1 | ⟨d1, d2⟩
  all_goals
    go_enter Try.func30, Try.ntmps30
    go_wp2_with (go_at_call 13; (with_reducible refine c1.mono ?_); rintro e w1 ⟨rfl, hb1⟩; (have hbH : Hid (Below w.heap.size w w1) := hb1); clear hb1)
    go_ret2
    exact ⟨rfl, hbH.out⟩
set_option maxHeartbeats 4000000 in
theorem rcount_ok (l : List Ev) (la : Option Addr) (lc : Nat) (most : Int) (w : World) (hl : Rows w 26 la lc (l.map Ev.cells)) (hlen : l.length ≤ 256) (hrt : ∀ x ∈ l, rightP x) (hc : checkP l 0) {B : Nat → Nat → Bool} (hB : Tells (dpf l) B) (hm1 : 1 ≤ most) (hm2 : most ≤ 10000) :
    Calls Try.prog 30 #[.slice la l.length lc, .int .i64 most] w fun e w' => ∃ r, e = .returned (.tuple #[.int .i64 r, .int .i64 0]) ∧ r = min (allW B l : Int) most ∧ Below w.heap.size w w' := by
  have c1 := rcheck_any l la lc w hl 0 hc
  have hlenI : (l.length : Int) ≤ 256 := by omega
  have hlH : Hid (Rows w 26 la lc (l.map Ev.cells)) := hl
  have hrH : Hid (∀ x ∈ l, rightP x) := hrt
  have hBH : Hid (Tells (dpf l) B) := hB
  have d1 : ¬ most < 1 := by omega
  have d2 : ¬ 10000 < most := by omega
  obtain ⟨iB, hiB, hzB, hsB, hbB⟩ := info_q infoBl
  have iBH : Hid (Try.prog.info? 4 = some iB ∧ iB.zero = some (.bool false) ∧ iB.size = 1 ∧ iB.bytes * l.length ≤ 281474976710656) := ⟨hiB, hzB, hsB, by rw [hbB]; omega⟩
  have cB : Hid (∀ wx, Below w.heap.size w wx → Calls Try.prog 50 #[.slice la l.length lc] wx fun e w' => ∃ A rb, e = .returned (.slice (some ⟨A, 0, none⟩) l.length l.length) ∧ RbS wx w' A l.length l.length rb B) := fun wx hb => rbef_any l la lc wx (hlH.out.later hb) hlen B hBH.out
  clear hl hrt hB hc hiB hzB hsB hbB
  go_enter Try.func30, Try.ntmps30
  go_upto_region 6 with (go_at_call 13; (with_reducible refine c1.mono ?_); rintro e w1 ⟨rfl, hb1⟩; (have hbH : Hid (Below w.heap.size w w1) := hb1); clear hb1)
  refine wp_region_noPanic ?_
  refine wp_region_held_drew (S := fun w' => Below w1.heap.size w1 w') (by kernel_rfl) (bey_drew w1) (fun hH => ?_)
  refine reg_move (i := 0) rfl (by kernel_rfl) (by kernel_rfl) (by kernel_rfl) (fun _ _ _ _ h => h) rfl (.slice la l.length lc) (fun _ => by kernel_rfl) hH ?_
  simp only [Act.put, List.getElem_toArray, List.getElem_cons_succ, List.getElem_cons_zero, List.setIfInBounds_toArray, List.set_cons_zero, List.set_cons_succ]
  refine reg_move (i := 1) rfl (by kernel_rfl) (by kernel_rfl) (by kernel_rfl) (fun _ _ _ _ h => h) rfl (.slice la l.length lc) (fun _ => by kernel_rfl) hH ?_
  simp only [Act.put, List.getElem_toArray, List.getElem_cons_succ, List.getElem_cons_zero, List.setIfInBounds_toArray, List.set_cons_zero, List.set_cons_succ]
  refine reg_move (i := 3) rfl (by kernel_rfl) (by kernel_rfl) (by kernel_rfl) (fun _ _ _ _ h => h) rfl (.slice la l.length lc) (fun _ => by kernel_rfl) hH ?_
  simp only [Act.put, List.getElem_toArray, List.getElem_cons_succ, List.getElem_cons_zero, List.setIfInBounds_toArray, List.set_cons_zero, List.set_cons_succ]
  refine reg_move (i := 4) rfl (by kernel_rfl) (by kernel_rfl) (by kernel_rfl) (fun _ _ _ _ h => h) rfl (.int .i64 (l.length : Int)) (fun _ => by kernel_rfl) hH ?_
  simp only [Act.put, List.getElem_toArray, List.getElem_cons_succ, List.getElem_cons_zero, List.setIfInBounds_toArray, List.set_cons_zero, List.set_cons_succ]
  refine reg_move (i := 6) rfl (by kernel_rfl) (by kernel_rfl) (by kernel_rfl) (fun _ _ _ _ h => h) rfl (.int .i64 most) (fun _ => by kernel_rfl) hH ?_
  simp only [Act.put, List.getElem_toArray, List.getElem_cons_succ, List.getElem_cons_zero, List.setIfInBounds_toArray, List.set_cons_zero, List.set_cons_succ]
  refine wpAnyH_ready (rs := [2, 5]) (by kernel_rfl) (by simp) (AllReadyH.cons rfl (arm_call1 rfl 50 _ _ rfl (.slice la l.length lc) rfl (cf_fn Try.func50 (by kernel_rfl) (by kernel_rfl) _ _) _ (cB.out _ (bthen hbH.out hH)) ?_) (AllReadyH.cons rfl (arm_list rfl ?_) AllReadyH.nil))
  · rintro e w2 ⟨A, rb, rfl, hR⟩
    have hH2 : Below w1.heap.size w1 w2 := bthen hH hR.b
    refine ⟨_, rfl, hH2, fun _ => ?_⟩
    simp only [Act.put, List.getElem_toArray, List.getElem_cons_succ, List.getElem_cons_zero, List.setIfInBounds_toArray, List.set_cons_zero, List.set_cons_succ]
    refine reg_one (i := 5) (by kernel_rfl) rfl rfl ?_
    refine wpList_mk _ rfl _ _ 36 rfl 4 iB (.bool false) Try.underlying36 iBH.out.1 iBH.out.2.1 rfl iBH.out.2.2.1 l.length rfl rfl iBH.out.2.2.2 (by omega) ?_
    intro w3 hw3 hb3 hs3
    have hH3 : Below w1.heap.size w1 w3 := bthen hH2 hb3
    have hM : Hid (∃ lo, Mat w3 lo A l.length l.length rb B) := ⟨_, hR.m.later hb3⟩
    have hN : Hid (w2.heap.size ≠ A ∧ ∀ i, i < l.length → w2.heap.size ≠ rb i) := ⟨by have := hR.m.lt.1; omega, fun i hi => by have := hR.m.lt.2 i hi; omega⟩
    rw [boolRow_new] at hw3
    clear hR hb3 hs3
    generalize w2.heap.size = Pb at *
    refine wpList_nil (And.intro hH3 fun _ => ?_)
    simp only [Act.put, List.getElem_toArray, List.getElem_cons_succ, List.getElem_cons_zero, List.setIfInBounds_toArray, List.set_cons_zero, List.set_cons_succ]
    obtain ⟨lo, hM⟩ := hM.out
    refine reg_call (i := 7) (by kernel_rfl) rfl rfl 57 _ _ rfl #[.slice la l.length lc, .slice (some ⟨A, 0, none⟩) l.length l.length, .slice (some ⟨Pb, 0, none⟩) l.length l.length, .int .i64 0, .int .i64 most] (by kernel_rfl) (cf_fn Try.func57 (by kernel_rfl) (by kernel_rfl) _ _) _ (ways_any l la lc A _ rb B hlen Pb l.length (fun _ => false) most 0 w3 (by omega) hm1 hm2 hM hw3 hN.out.1 hN.out.2) ?_
    rintro e w4 ⟨⟨r, rfl, hr⟩, hb4⟩
    have hH4 : Below w1.heap.size w1 w4 := bthen hH3 hb4
    refine ⟨_, rfl, hH4, fun _ => ?_⟩
    simp only [Act.put, List.getElem_toArray, List.getElem_cons_succ, List.getElem_cons_zero, List.setIfInBounds_toArray, List.set_cons_zero, List.set_cons_succ]
    refine reg_move (i := 8) rfl (by kernel_rfl) (by kernel_rfl) (by kernel_rfl) (fun _ _ _ _ h => h) rfl (.int .i64 r) (fun _ => by kernel_rfl) hH4 ?_
    simp only [Act.put, List.getElem_toArray, List.getElem_cons_succ, List.getElem_cons_zero, List.setIfInBounds_toArray, List.set_cons_zero, List.set_cons_succ]
    refine reg_move (i := 9) rfl (by kernel_rfl) (by kernel_rfl) (by kernel_rfl) (fun _ _ _ _ h => h) rfl (.int .i64 0) (fun _ => by kernel_rfl) hH4 ?_
    simp only [Act.put, List.getElem_toArray, List.getElem_cons_succ, List.getElem_cons_zero, List.setIfInBounds_toArray, List.set_cons_zero, List.set_cons_succ]
    refine wpAnyH_done (by kernel_rfl) (NoPanic.normal ?_) _
    have hfin : Hid (r = min (allW B l : Int) most ∧ Below w.heap.size w w4) := ⟨by unfold allW; rw [pw_empty hBH.out hrH.out]; exact hr, bthen hbH.out hH4⟩
    clear hr hH hH2 hH3 hH4 hb4 hM hw3 hN cB
    go_wp2_with fail
    go_ret2
    exact ⟨_, rfl, hfin.out.1, hfin.out.2⟩
  · refine wpList_mk _ rfl _ _ 36 rfl 4 iB (.bool false) Try.underlying36 iBH.out.1 iBH.out.2.1 rfl iBH.out.2.2.1 l.length rfl rfl iBH.out.2.2.2 (by omega) ?_
    intro w2 hw2 hb2 hs2
    have hH2 : Below w1.heap.size w1 w2 := bthen hH hb2
    refine wpList_nil (And.intro hH2 fun _ => ?_)
    simp only [Act.put, List.getElem_toArray, List.getElem_cons_succ, List.getElem_cons_zero, List.setIfInBounds_toArray, List.set_cons_zero, List.set_cons_succ]
    refine reg_call1 (i := 2) (by kernel_rfl) rfl rfl 50 _ _ rfl (.slice la l.length lc) rfl (cf_fn Try.func50 (by kernel_rfl) (by kernel_rfl) _ _) _ (cB.out _ (bthen hbH.out hH2)) ?_
    rintro e w3 ⟨A, rb, rfl, hR⟩
    have hH3 : Below w1.heap.size w1 w3 := bthen hH2 hR.b
    have hM := hR.m
    have hlt1 : w1.drew.heap.size < w2.heap.size := by omega
    have hN : Hid (w1.drew.heap.size ≠ A ∧ ∀ i, i < l.length → w1.drew.heap.size ≠ rb i) := ⟨by have := hR.m.lo.1; omega, fun i hi => by have := hR.m.lo.2 i hi; omega⟩
    rw [boolRow_new] at hw2
    have hw3 := (hR.b.block _ hlt1).trans hw2
    clear hR hb2 hs2 hlt1 hw2
    generalize w1.drew.heap.size = Pb at *
    refine ⟨_, rfl, hH3, fun _ => ?_⟩
    simp only [Act.put, List.getElem_toArray, List.getElem_cons_succ, List.getElem_cons_zero, List.setIfInBounds_toArray, List.set_cons_zero, List.set_cons_succ]
    refine reg_call (i := 7) (by kernel_rfl) rfl rfl 57 _ _ rfl #[.slice la l.length lc, .slice (some ⟨A, 0, none⟩) l.length l.length, .slice (some ⟨Pb, 0, none⟩) l.length l.length, .int .i64 0, .int .i64 most] (by kernel_rfl) (cf_fn Try.func57 (by kernel_rfl) (by kernel_rfl) _ _) _ (ways_any l la lc A _ rb B hlen Pb l.length (fun _ => false) most 0 w3 (by omega) hm1 hm2 hM hw3 hN.out.1 hN.out.2) ?_
    rintro e w4 ⟨⟨r, rfl, hr⟩, hb4⟩
    have hH4 : Below w1.heap.size w1 w4 := bthen hH3 hb4
    refine ⟨_, rfl, hH4, fun _ => ?_⟩
    simp only [Act.put, List.getElem_toArray, List.getElem_cons_succ, List.getElem_cons_zero, List.setIfInBounds_toArray, List.set_cons_zero, List.set_cons_succ]
    refine reg_move (i := 8) rfl (by kernel_rfl) (by kernel_rfl) (by kernel_rfl) (fun _ _ _ _ h => h) rfl (.int .i64 r) (fun _ => by kernel_rfl) hH4 ?_
    simp only [Act.put, List.getElem_toArray, List.getElem_cons_succ, List.getElem_cons_zero, List.setIfInBounds_toArray, List.set_cons_zero, List.set_cons_succ]
    refine reg_move (i := 9) rfl (by kernel_rfl) (by kernel_rfl) (by kernel_rfl) (fun _ _ _ _ h => h) rfl (.int .i64 0) (fun _ => by kernel_rfl) hH4 ?_
    simp only [Act.put, List.getElem_toArray, List.getElem_cons_succ, List.getElem_cons_zero, List.setIfInBounds_toArray, List.set_cons_zero, List.set_cons_succ]
    refine wpAnyH_done (by kernel_rfl) (NoPanic.normal ?_) _
    have hfin : Hid (r = min (allW B l : Int) most ∧ Below w.heap.size w w4) := ⟨by unfold allW; rw [pw_empty hBH.out hrH.out]; exact hr, bthen hbH.out hH4⟩
    clear hr hH hH2 hH3 hH4 hb4 hM hw3 hN cB
    go_wp2_with fail
    go_ret2
    exact ⟨_, rfl, hfin.out.1, hfin.out.2⟩
end Go.Proofs.Ytkadlopcomjonaa.pg
/- The events that touch an object, by package depend; DependUses, walked. -/
namespace Go.Proofs.Ytkadlopcomjonaa.pg
open Go.ChangeShapes Go.WideShapes Go.ChangeAt Go.RowKit
set_option linter.unusedVariables false
set_option linter.unusedSimpArgs false
set_option maxRecDepth 100000
attribute [local go_sem ↓] Go.wp_at_zero Go.wp_at_succ
/-- Events that came in. -/
def EvsIn (w : World) (b : Option Addr) (c : Nat) (l : List Ev) : Prop := Rows w 26 b c (l.map Ev.cells) ∧ ∀ x ∈ l, x.wf
section
variable {H : Type} {enc : TypeId × Value → H} {w : World} {base : Nat} {spare : Nat → Bool} {held : Bool}
theorem evs_sz {n : Nat} {a : Option Addr} {len cap : Nat} {y : DataW H × List MemPlace} (h : DataW.trod enc Try.prog w base spare held n 22 [.slice a len cap] = some y) (hs : Sz Try.prog 22 y.1) : ∃ l : List Ev, l.length = len ∧ EvsIn w a cap l := by
  obtain ⟨l, rfl, h1, h2, h3⟩ := rows_sz (k := 26) ev0 Ev.cells Ev.wf Try.underlying22 (by kernel_rfl) (by omega) (fun n cs y hl h _ => ev_in hl h) h hs
  exact ⟨l, rfl, h1, h2⟩
end
set_option maxHeartbeats 1000000 in
theorem sameInts_u (l : List Int) (a b : Option Addr) (ca cb : Nat) (w : World) (ha : Rows w 1 a ca (l.map chCells)) (hb : Rows w 1 b cb (l.map chCells)) :
    Calls Try.prog 23 #[.slice a l.length ca, .slice b l.length cb] w fun e w' => e = .returned (.bool true) ∧ Below w.heap.size w w' := by
  have hlI : (l.length : Int) ≤ 9223372036854775807 := rows_len ha
  go_enter Try.func23, Try.ntmps23
  go_wp2_with fail
  go_loopw [13] (fun u wr => ∃ k : Nat, k ≤ l.length ∧ u = .int .i64 k ∧ Below w.heap.size w wr) (fun u _ => l.length - (intOf u).toNat)
  case atStart => exact ⟨0, Nat.zero_le _, rfl, Below.refl _ _⟩
  case round =>
    obtain ⟨k, hk, rfl, hbe⟩ := hrel
    by_cases hlt : k < l.length
    · obtain ⟨y, hy, hym⟩ := get_lt l k hlt
      obtain ⟨b1, o1, hix1, hbl1, c1⟩ := ch_ix (ha.later hbe) k y hy
      obtain ⟨b2, o2, hix2, hbl2, c2⟩ := ch_ix (hb.later hbe) k y hy
      have hkI : (k : Int) < l.length := by omega
      go_wp2_with fail
      go_quiet (fail)
      go_wp2
      go_roundw
      case rel => exact ⟨k + 1, by omega, by go_num, below_drewN hbe _⟩
      case measure => simp [intOf]; omega
    · have hk2 : k = l.length := by omega
      subst hk2
      go_wp2
      go_ret
      exact ⟨rfl, hbe⟩
end Go.Proofs.Ytkadlopcomjonaa.pg
/- How package order compares two edges. -/
namespace Go.Proofs.Ytkadlopcomjonaa.pg
open Go.ChangeShapes Go.WideShapes Go.ChangeAt Go.RowKit Go.Shelf
set_option linter.unusedVariables false
set_option linter.unusedSimpArgs false
set_option maxRecDepth 100000
attribute [local go_sem ↓] Go.wp_at_zero Go.wp_at_succ
def cmp2 (a b : Nat × Nat) : Int := if cmpP a.1 b.1 = 0 then cmpP a.2 b.2 else cmpP a.1 b.1
theorem cmpP_val (a b : Int) : cmpP a b = -1 ∧ a < b ∨ cmpP a b = 0 ∧ a = b ∨ cmpP a b = 1 ∧ b < a := by
  unfold cmpP
  split
  · exact .inl ⟨rfl, by assumption⟩
  · split
    · exact .inr (.inr ⟨rfl, by omega⟩)
    · exact .inr (.inl ⟨rfl, by omega⟩)
set_option maxHeartbeats 1000000 in
theorem compare2_any (a b : Nat × Nat) (A B : Nat) (w : World) (a0 : w.cell? ⟨A, 0, none⟩ = some (.int .i64 (a.1 : Int))) (a1 : w.cell? ⟨A, 1, none⟩ = some (.int .i64 (a.2 : Int))) (b0 : w.cell? ⟨B, 0, none⟩ = some (.int .i64 (b.1 : Int))) (b1 : w.cell? ⟨B, 1, none⟩ = some (.int .i64 (b.2 : Int))) :
    Calls Try.prog 78 #[.slice (some ⟨A, 0, none⟩) 2 2, .slice (some ⟨B, 0, none⟩) 2 2] w fun e w' => e = .returned (.int .i64 (cmp2 a b)) ∧ w' = w := by
  have c1 : ∀ (x y : Int) wx, Calls Try.prog 70 #[.int .i64 x, .int .i64 y] wx _ := fun x y wx => cmp_any x y wx
  go_enter Try.func78, Try.ntmps78
  go_wp2
  go_loopw [11] (fun u wr => wr = w ∧ (u = .int .i64 0 ∨ u = .int .i64 1 ∧ Hid (cmpP a.1 b.1 = 0) ∨ u = .int .i64 2 ∧ Hid (cmpP a.1 b.1 = 0 ∧ cmpP a.2 b.2 = 0))) (fun u _ => 2 - (intOf u).toNat)
  case atStart => exact ⟨rfl, .inl rfl⟩
  case round =>
    obtain ⟨rfl, rfl | ⟨rfl, h0⟩ | ⟨rfl, h0⟩⟩ := hrel
    · by_cases e : cmpP a.1 b.1 = 0
      · have c2 : ∀ wx, Calls Try.prog 70 #[.int .i64 (a.1 : Int), .int .i64 (b.1 : Int)] wx fun e w' => e = .returned (.int .i64 0) ∧ w' = wx := fun wx => by rw [← e]; exact c1 _ _ wx
        have hh : Hid (cmpP a.1 b.1 = 0) := e
        clear e c1
        go_wp2_with (go_at_call 70; (with_reducible refine (c2 _).mono ?_); rintro e w1 ⟨rfl, rfl⟩)
        go_roundw
        case rel => exact ⟨trivial, .inr (.inl ⟨rfl, hh⟩)⟩
        case measure => simp [intOf]
      · have h2 : Hid (cmp2 a b = cmpP a.1 b.1) := by show _ = _; unfold cmp2; rw [if_neg e]
        have e2 : (cmpP a.1 b.1 == 0) = false := by simpa using e
        have c2 := c1 a.1 b.1
        generalize cmpP a.1 b.1 = r at *
        clear c1
        go_wp2_with (go_at_call 70; (with_reducible refine (c2 _).mono ?_); rintro e w1 ⟨rfl, rfl⟩)
        go_ret
        exact ⟨by rw [h2.out]; rfl, rfl⟩
    · by_cases e : cmpP a.2 b.2 = 0
      · have c2 : ∀ wx, Calls Try.prog 70 #[.int .i64 (a.2 : Int), .int .i64 (b.2 : Int)] wx fun e w' => e = .returned (.int .i64 0) ∧ w' = wx := fun wx => by rw [← e]; exact c1 _ _ wx
        have hh : Hid (cmpP a.1 b.1 = 0 ∧ cmpP a.2 b.2 = 0) := ⟨h0.out, e⟩
        clear e c1
        go_wp2_with (go_at_call 70; (with_reducible refine (c2 _).mono ?_); rintro e w1 ⟨rfl, rfl⟩)
        go_roundw
        case rel => exact ⟨trivial, .inr (.inr ⟨rfl, hh⟩)⟩
        case measure => simp [intOf]
      · have h2 : Hid (cmp2 a b = cmpP a.2 b.2) := by show _ = _; unfold cmp2; rw [if_pos h0.out]
        have e2 : (cmpP a.2 b.2 == 0) = false := by simpa using e
        have c2 := c1 a.2 b.2
        generalize cmpP a.2 b.2 = r at *
        clear c1
        go_wp2_with (go_at_call 70; (with_reducible refine (c2 _).mono ?_); rintro e w1 ⟨rfl, rfl⟩)
        go_ret
        exact ⟨by rw [h2.out]; rfl, rfl⟩
    · have h2 : Hid (cmp2 a b = 0) := by show _ = _; unfold cmp2; rw [if_pos h0.out.1]; exact h0.out.2
      go_wp2
      go_ret
      exact ⟨by rw [h2.out]; rfl, rfl⟩
abbrev objEdge (p : Nat × Nat) : Obj := .cells #[.int .i64 (p.1 : Int), .int .i64 (p.2 : Int)] 94
theorem sub2 (B : Nat) : ∀ wx, (Instr.sliceAt 94 (.pointer (some ⟨B, 0, none⟩)) none none none).run Try.prog wx = .ok (.slice (some ⟨B, 0, none⟩) 2 2) wx := by
  intro wx
  have u := Try.underlying94
  have z := Try.sizeOf3
  simp [Instr.sliceAt, run_underlying u, asIntOf, go_sem, z]
set_option maxHeartbeats 1000000 in
theorem cmpE_any (a b : Nat × Nat) (w : World) : Calls Try.prog 77 #[.agg (edg a).toArray, .agg (edg b).toArray] w fun e w' => e = .returned (.int .i64 (cmp2 a b)) ∧ ∃ q, w' = ((w.alloc (objEdge a)).alloc (objEdge b)).drewN q := by
  have s1 := sub2 w.heap.size
  have s2 := sub2 (w.heap.size + 1)
  have h1 : ((w.alloc (objEdge a)).alloc (objEdge b)).heap[w.heap.size]? = some (objEdge a) := (Below.heap_alloc _ _ _ (by simp [World.size_alloc])).trans (heap_alloc_new w _)
  have h2 : ((w.alloc (objEdge a)).alloc (objEdge b)).heap[w.heap.size + 1]? = some (objEdge b) := by
    have := heap_alloc_new (w.alloc (objEdge a)) (objEdge b)
    rwa [World.size_alloc] at this
  have c1 : ∀ wx, wx.heap[w.heap.size]? = some (objEdge a) → wx.heap[w.heap.size + 1]? = some (objEdge b) → Calls Try.prog 78 #[.slice (some ⟨w.heap.size, 0, none⟩) 2 2, .slice (some ⟨w.heap.size + 1, 0, none⟩) 2 2] wx fun e w' => e = .returned (.int .i64 (cmp2 a b)) ∧ w' = wx := fun wx q1 q2 => compare2_any a b _ _ wx (cell_of q1 rfl) (cell_of q1 rfl) (cell_of q2 rfl) (cell_of q2 rfl)
  generalize cmp2 a b = r at *
  show Calls Try.prog 77 #[.agg #[.int .i64 (a.1 : Int), .int .i64 (a.2 : Int)], .agg #[.int .i64 (b.1 : Int), .int .i64 (b.2 : Int)]] w _
  go_enter Try.func77, Try.ntmps77
  go_wp2_with fail
  generalize hWW : (w.alloc (objEdge a)).alloc (objEdge b) = W at *
  refine wp_region_held_drew (S := fun _ => True) (by kernel_rfl) trivial (fun hH => ?_)
  refine reg_move (i := 0) rfl (by kernel_rfl) (by kernel_rfl) (by kernel_rfl) (fun _ _ _ _ h => h) rfl (.slice (some ⟨w.heap.size, 0, none⟩) 2 2) (fun wx => by unfold execOp; exact run_value_of (s1 wx)) hH ?_
  simp only [Act.put, List.getElem_toArray, List.getElem_cons_succ, List.getElem_cons_zero, List.setIfInBounds_toArray, List.set_cons_zero, List.set_cons_succ]
  refine reg_move (i := 1) rfl (by kernel_rfl) (by kernel_rfl) (by kernel_rfl) (fun _ _ _ _ h => h) rfl (.slice (some ⟨w.heap.size + 1, 0, none⟩) 2 2) (fun wx => by unfold execOp; exact run_value_of (s2 wx)) hH ?_
  simp only [Act.put, List.getElem_toArray, List.getElem_cons_succ, List.getElem_cons_zero, List.setIfInBounds_toArray, List.set_cons_zero, List.set_cons_succ]
  refine reg_call2 (i := 2) (by kernel_rfl) rfl rfl 78 _ _ _ _ rfl (.slice (some ⟨w.heap.size, 0, none⟩) 2 2) (.slice (some ⟨w.heap.size + 1, 0, none⟩) 2 2) rfl rfl (cf_fn Try.func78 (by kernel_rfl) (by kernel_rfl) _ _) _ (c1 _ h1 h2) ?_
  rintro e w1 ⟨rfl, rfl⟩
  refine ⟨_, rfl, trivial, fun _ => ?_⟩
  simp only [Act.put, List.getElem_toArray, List.getElem_cons_succ, List.getElem_cons_zero, List.setIfInBounds_toArray, List.set_cons_zero, List.set_cons_succ]
  refine reg_move (i := 3) rfl (by kernel_rfl) (by kernel_rfl) (by kernel_rfl) (fun _ _ _ _ h => h) rfl _ (fun _ => rfl) trivial ?_
  simp only [Act.put, List.getElem_toArray, List.getElem_cons_succ, List.getElem_cons_zero, List.setIfInBounds_toArray, List.set_cons_zero, List.set_cons_succ]
  refine wpAnyH_done (by kernel_rfl) ?_ _
  go_wp2
  go_ret
  exact ⟨rfl, 1, by rw [hWW]; rfl⟩
end Go.Proofs.Ytkadlopcomjonaa.pg
