/- RacePairs, as soon as package race's Races is known at the example. -/
import Derived.Test.YtafefnkgdnmjbaaGreatDoorM36
import Derived.Test.YtafefnkgdnmjbaaGreatDoorM16
namespace Go.Proofs.YtafefnkgdnmjbaaGreatDoor.pg
open Go.ChangeShapes Go.WideShapes Go.ChangeAt Go.RowKit Go.Shelf
set_option linter.unusedVariables false
set_option linter.unusedSimpArgs false
set_option maxRecDepth 100000
attribute [local go_sem ↓] Go.wp_at_zero Go.wp_at_succ
set_option maxHeartbeats 2000000 in
theorem racePairs_bad (hX : RacesX) (l : List Ev) (la : Option Addr) (lc : Nat) (w : World) (hF : prog.Forms w) (hl : Rows w 26 la lc (l.map Ev.cells)) (c : Int) (hc : checkP l c) (h7 : c = 2 ∨ c = 7) : Calls Tryz.prog 3 #[.slice la l.length lc] w fun e w' => e = .returned (.bool true) ∧ Below w.heap.size w w' := by
  have cP := pairs_bad l la lc w hl c hc h7
  have cK : ∀ wx, Below w.heap.size w wx → Calls Tryz.prog 10 #[.slice la l.length lc] wx fun e w' => e = .returned (.int .i64 c) ∧ Below wx.heap.size wx w' := fun wx hb => rcheck_any l la lc wx (hl.later hb) c hc
  have cS : ∀ wx, Below w.heap.size w wx → Calls Tryz.prog 11 #[] wx fun e w' => e = .returned (.bool true) ∧ Below wx.heap.size wx w' := fun wx hb => speaks14_of hX wx (hF.later hb)
  clear hX hl hF hc
  rcases h7 with rfl | rfl
  all_goals
    go_enter Tryz.func3, Tryz.ntmps3
    go_wp2_with (first
      | (go_at_call 9; (with_reducible refine cP.mono ?_); rintro e w1 ⟨rfl, hb1⟩; (have hB : Hid (Below w.heap.size w w1) := hb1); clear hb1 cP)
      | (go_at_call 10; (with_reducible refine (cK _ hB.out).mono ?_); rintro e w2 ⟨rfl, hb2⟩; (have hB : Hid (Below w.heap.size w w2) := bthen hB.out hb2); clear hb2 cK)
      | (go_at_call 11; (with_reducible refine (cS _ hB.out).mono ?_); rintro e w3 ⟨rfl, hb3⟩; (have hB6 : Hid (Below w.heap.size w w3) := bthen hB.out hb3)))
    go_ret
    exact ⟨rfl, hB6.out⟩
set_option maxHeartbeats 2000000 in
theorem racePairs_ok (hX : RacesX) (l : List Ev) (la : Option Addr) (lc : Nat) (w : World) (hF : prog.Forms w) (hl : Rows w 26 la lc (l.map Ev.cells)) (hlen : l.length ≤ 256) (hrt : ∀ x ∈ l, rightP x) : Calls Tryz.prog 3 #[.slice la l.length lc] w fun e w' => e = .returned (.bool true) ∧ Below w.heap.size w w' := by
  obtain ⟨B, hB⟩ := tells_some (dpf l)
  have hc : checkP l 0 := .inr (.inr ⟨hlen, hrt, rfl⟩)
  have cP := pairs_ok l la lc w hl hlen hrt B hB
  have cK : ∀ wx, Below w.heap.size w wx → Calls Tryz.prog 10 #[.slice la l.length lc] wx fun e w' => e = .returned (.int .i64 0) ∧ Below wx.heap.size wx w' := fun wx hb => rcheck_any l la lc wx (hl.later hb) 0 hc
  have cS : ∀ wx, Below w.heap.size w wx → Calls Tryz.prog 11 #[] wx fun e w' => e = .returned (.bool true) ∧ Below wx.heap.size wx w' := fun wx hb => speaks14_of hX wx (hF.later hb)
  have cR : ∀ wx, Below w.heap.size w wx → Calls Tryz.prog 13 #[.slice la l.length lc] wx fun e w' => ∃ va vc, e = .returned (.slice va (rcL B l fun _ _ => true).length vc) ∧ Rows w' 2 va vc ((rcL B l fun _ _ => true).map edg) ∧ Below wx.heap.size wx w' := fun wx hb => rpairs_any l la lc wx (hl.later hb) hlen B hB
  have hLn : (rcL B l fun _ _ => true).length ≤ 65536 := Nat.le_trans (List.length_filter_le _ _) (edL_len hlen)
  have hLH : Hid ((rcL B l fun _ _ => true).length ≤ 65536) := hLn
  clear hX hl hF hc hlen hrt hB hLn
  generalize rcL B l (fun _ _ => true) = L at *
  go_enter Tryz.func3, Tryz.ntmps3
  go_wp2_with (first
    | (go_at_call 9; (with_reducible refine cP.mono ?_); rintro e w1 ⟨da, dc, rfl, hr1, hb1⟩; (have hB : Hid (Below w.heap.size w w1 ∧ Rows w1 2 da dc (L.map edg)) := ⟨hb1, hr1⟩); clear hb1 hr1 cP)
    | (go_at_call 10; (with_reducible refine (cK _ hB.out.1).mono ?_); rintro e w2 ⟨rfl, hb2⟩; (have hB : Hid (Below w.heap.size w w2 ∧ Rows w2 2 da dc (L.map edg)) := ⟨bthen hB.out.1 hb2, hB.out.2.later hb2⟩); clear hb2 cK)
    | (go_at_call 11; (with_reducible refine (cS _ hB.out.1).mono ?_); rintro e w3 ⟨rfl, hb3⟩; (have hB : Hid (Below w.heap.size w w3 ∧ Rows w3 2 da dc (L.map edg)) := ⟨bthen hB.out.1 hb3, hB.out.2.later hb3⟩); clear hb3 cS)
    | (go_at_call 13; (with_reducible refine (cR _ hB.out.1).mono ?_); rintro e w4 ⟨va, vc, rfl, hr4, hb4⟩; (have hB : Hid (Below w.heap.size w w4 ∧ Rows w4 2 da dc (L.map edg) ∧ Rows w4 2 va vc (L.map edg)) := ⟨bthen hB.out.1 hb4, hB.out.2.later hb4, hr4⟩); clear hb4 hr4 cR)
    | (go_at_call 12; (refine (samePairs_any L hLH.out da va dc vc _ hB.out.2.1 hB.out.2.2).mono ?_); rintro e w5 ⟨rfl, hb5⟩; (have hB6 : Hid (Below w.heap.size w w5) := bthen hB.out.1 hb5)))
  go_ret
  exact ⟨rfl, hB6.out⟩
theorem racePairs_of (hX : RacesX) (l : List Ev) (la : Option Addr) (lc : Nat) (w : World) (hF : prog.Forms w) (hl : Rows w 26 la lc (l.map Ev.cells)) : Calls Tryz.prog 3 #[.slice la l.length lc] w fun e w' => e = .returned (.bool true) ∧ Below w.heap.size w w' := by
  obtain ⟨c, hc⟩ := check_ex l
  rcases hc with ⟨h1, h2⟩ | ⟨h1, h2, h3⟩ | ⟨h1, h2, h3⟩
  · exact racePairs_bad hX l la lc w hF hl c (.inl ⟨h1, h2⟩) (.inl h2)
  · exact racePairs_bad hX l la lc w hF hl c (.inr (.inl ⟨h1, h2, h3⟩)) (.inr h3)
  · exact racePairs_ok hX l la lc w hF hl h1 h2
end Go.Proofs.YtafefnkgdnmjbaaGreatDoor.pg
/- Package race's Races at the example; RacePairs. -/
namespace Go.Proofs.YtafefnkgdnmjbaaGreatDoor.pg
open Go.ChangeShapes Go.WideShapes Go.ChangeAt Go.RowKit Go.Shelf
set_option linter.unusedVariables false
set_option linter.unusedSimpArgs false
set_option maxRecDepth 100000
theorem wf_exR : ∀ x ∈ exR, x.wf := by
  intro x hx
  simp only [exR, List.mem_cons, List.not_mem_nil, or_false] at hx
  rcases hx with rfl | rfl | rfl
  all_goals
    unfold Ev.wf Acc.wf I64
    decide
theorem gaL_exR : gaL (fun n => decide (n < 1)) exR [(0, 1), (1, 2)] = [fdX, fdX] := by
  have h1 : upK (fun n => decide (n < 1)) (evf exR 0) (evf exR 1) 6 = [0] := by decide
  have h2 : upK (fun n => decide (n < 1)) (evf exR 1) (evf exR 2) 6 = [0] := by decide
  unfold gaL gaP
  simp only [List.flatMap_cons, List.flatMap_nil, h1, h2]
  decide
theorem cpt_two : cpt [fdX, fdX] = [fdX] := by decide
theorem racesX : RacesX := by
  intro wx B ta tc hM hF ht
  obtain ⟨T, hT⟩ := tells_some (dpf exR)
  refine (races_tell (leM B) exR ta tc wx hM hF 0 0 (by rw [leM_pr]; exact chk_leP) ht (by decide) right_exR wf_exR T hT).mono ?_
  rintro e w' ⟨ra, rc, D, he, hp, hs, hr, hb⟩
  rw [pairs_exR hT, plV_leM, gaL_exR] at hp
  have hD : D = [fdX, fdX] := by
    have hm : ∀ x ∈ D, x = fdX := fun x hx => by
      have := hp.mem_iff.mp hx
      simpa using this
    have hl := hp.length_eq
    match D, hm, hl with
    | [a, b], hm, _ => rw [hm a (by simp), hm b (by simp)]
  rw [hD, cpt_two] at he hr
  exact ⟨ra, rc, he, hr, hb⟩
theorem racePairs_any (l : List Ev) (la : Option Addr) (lc : Nat) (w : World) (hF : prog.Forms w) (hl : Rows w 26 la lc (l.map Ev.cells)) : Calls Tryz.prog 3 #[.slice la l.length lc] w fun e w' => e = .returned (.bool true) ∧ Below w.heap.size w w' := racePairs_of racesX l la lc w hF hl
end Go.Proofs.YtafefnkgdnmjbaaGreatDoor.pg
/- The events that touch an object, by package depend; DependUses, walked. -/
namespace Go.Proofs.YtafefnkgdnmjbaaGreatDoor.pg
open Go.ChangeShapes Go.WideShapes Go.ChangeAt Go.RowKit
set_option linter.unusedVariables false
set_option linter.unusedSimpArgs false
set_option maxRecDepth 100000
attribute [local go_sem ↓] Go.wp_at_zero Go.wp_at_succ
theorem users_bad (l : List Ev) (la : Option Addr) (lc : Nat) (kd nm : Int) (w : World) (hl : Rows w 26 la lc (l.map Ev.cells)) (c : Int) (hc : Hid (checkP l c)) (h0 : (c == 0) = false) : Calls Tryz.prog 105 #[.slice la l.length lc, .int .i64 kd, .int .i64 nm] w fun e w' => e = .returned (.tuple #[.slice none 0 0, .int .i64 c]) ∧ Below w.heap.size w w' := by
  have c1 : Calls Tryz.prog 86 #[.slice la l.length lc] w _ := check_any l la lc w hl c hc
  clear hl hc
  go_enter Tryz.func105, Tryz.ntmps105
  go_wp2
  go_step3
  go_wp2_with (go_at_call 86; (with_reducible refine c1.mono ?_); rintro e w1 ⟨rfl, hb1⟩)
  rw [Exit.noGoto_ret]
  go_ret2
  exact ⟨rfl, hb1⟩
set_option maxHeartbeats 2000000 in
theorem users_any (l : List Ev) (la : Option Addr) (lc : Nat) (kd nm : Int) (w : World) (hl : Rows w 26 la lc (l.map Ev.cells)) (hsm : l.length ≤ 256) (hrt : ∀ x ∈ l, rightP x) : Calls Tryz.prog 105 #[.slice la l.length lc, .int .i64 kd, .int .i64 nm] w fun e w' => ∃ va vc, e = .returned (.tuple #[.slice va (usersTo l kd nm l.length).length vc, .int .i64 0]) ∧ Rows w' 1 va vc ((usersTo l kd nm l.length).map chCells) ∧ Below w.heap.size w w' := by
  have c1 : Calls Tryz.prog 86 #[.slice la l.length lc] w _ := check_any l la lc w hl 0 (.inr (.inr ⟨hsm, hrt, rfl⟩))
  have hlH : Hid (Rows w 26 la lc (l.map Ev.cells)) := hl
  have hrtH : Hid (∀ x ∈ l, rightP x) := hrt
  clear hl hrt
  obtain ⟨iN, hiN, hzN, hsN, hbN⟩ := info_q infoN_u
  have huH : Hid (Tryz.prog.underlying 69 = _) := Tryz.underlying69
  have hiH : Hid ((Tryz.prog.info? 69).map (·.size) = some 26) := infoE26
  have cO : ∀ (k n : Int) (r : Bool) wx, Calls Tryz.prog 127 #[.agg #[.int .i64 k, .int .i64 n, .bool r]] wx _ := fun k n r wx => object_any ⟨k, n, r⟩ wx
  go_enter Tryz.func105, Tryz.ntmps105
  go_wp2
  go_step3
  go_wp2_with (go_at_call 86; (with_reducible refine c1.mono ?_); rintro e w0 ⟨rfl, hb0⟩)
  have hb0H : Hid (Below w.heap.size w w0) := hb0
  clear c1 hb0
  go_step3
  go_wp2
  go_loopw [9, 21] (fun o u wr => ∃ (j : Nat) (va : Option Addr) (vc : Nat), j ≤ l.length ∧ u = .int .i64 j ∧ o = .slice va (usersTo l kd nm j).length vc ∧ Hid (USt w l kd nm j va vc wr)) (fun _ u _ => l.length - (intOf u).toNat)
  case atStart => exact ⟨0, none, 0, Nat.zero_le _, rfl, rfl, hb0H.out, own_nil_q _ _ _ _⟩
  case round =>
    obtain ⟨j, va, vc, hj, rfl, rfl, stH⟩ := hrel
    by_cases hlt : j < l.length
    · obtain ⟨x, hx, hxm⟩ := get_lt l j hlt
      obtain ⟨b0, o0, hix, hbl, hrg⟩ := ev_row (hlH.out.later stH.out.be) j x hx
      have hrH : Hid (wr.rangeAt b0 o0 x.cells) := hrg
      have hjI : (j : Int) < l.length := by omega
      have hul := users_len l kd nm j
      have hxr : Hid (rightP x) := hrtH.out x hxm
      have bx := boxE_new wr x
      have c25 : (wr.alloc (objE x)).cell? ⟨wr.heap.size, 25, none⟩ = some (.int .i64 x.n) := bx.at 25 _ rfl
      have hbxH : Hid (BoxE (wr.alloc (objE x)) wr.heap.size x) := bx
      obtain ⟨N, hN⟩ : ∃ N, N = tN x.n := ⟨_, rfl⟩
      have hNI : ((N : Nat) : Int) = x.n := by rw [hN]; exact tN_eq hxr.out.1.2.2.1 hxr.out.1.2.2.2
      have hN16 : 1 ≤ N ∧ N ≤ 6 := by have := hxr.out.1; omega
      obtain ⟨sl1, _, _, _⟩ := slice_two wr.heap.size N hN16.1 hN16.2
      rw [hNI] at sl1
      have hofl : Hid (x.of.length = N) := by show _ = _; rw [hN, Ev.of_len]
      clear hrg bx hN hNI
      go_upto_region 8 with (first
        | (refine wpList_load_mid rfl 69 _ rfl b0 o0 rfl x.cells _ hrH.out huH.out rfl hiH.out ?_)
        | (refine wpList_store_new rfl 69 _ _ rfl rfl _ x.cells.toArray rfl (by kernel_rfl) rfl (ev_one x) ?_))
      change Code.wp _ _ _ _ (wr.alloc (objE x))
      have st1 : Hid (USt w l kd nm j va vc (wr.alloc (objE x))) := stH.out.later (boxed _ _)
      generalize wr.alloc (objE x) = W at *
      go_frame
      go_wp2
      have hLr : Hid (Rows W 3 (some ⟨wr.heap.size, 7, none⟩) 6 (x.of.map Acc.cells)) := rowsE hbxH.out
      have hN6 : (N : Int) ≤ 6 := by omega
      have hOw : Hid (∀ wx, Below W.heap.size W wx → OwnL wx w.heap.size 3 1 va vc ((usersTo l kd nm j).map chCells)) := fun wx h => (st1.out.later h).ow
      have hSz : Hid (∀ wx, Below W.heap.size W wx → w.heap.size ≤ wx.heap.size) := fun wx h => (st1.out.later h).be.size
      have hBe : Hid (∀ wx, Below W.heap.size W wx → Below w.heap.size w wx) := fun wx h => (st1.out.later h).be
      clear c25 sl1
      go_loopw [9, 31] (fun o u wq => ∃ m : Nat, m ≤ N ∧ u = .int .i64 m ∧ o = .slice va (usersTo l kd nm j).length vc ∧ Below W.heap.size W wq ∧ Hid (∀ a ∈ x.of.take m, (a.kind == kd && a.num == nm) = false)) (fun _ u _ => N - (intOf u).toNat)
      case atStart => exact ⟨0, Nat.zero_le _, rfl, rfl, Below.refl _ _, fun a ha => by simp at ha⟩
      case round =>
        rename World => wq
        obtain ⟨m, hm, rfl, rfl, hbq, hno⟩ := hrel
        by_cases hlt2 : m < N
        · obtain ⟨a, ha, ham⟩ := get_lt x.of m (by rw [hofl.out]; exact hlt2)
          obtain ⟨b1, o1, hix1, hbl1, k0, k1, k2⟩ := acc_ix (hLr.out.later hbq) m a ha
          rw [hofl.out] at hix1
          have hmI : (m : Int) < N := by omega
          have heq : ∀ wx, (binOp .eql 66 (.agg #[.int .i64 a.kind, .int .i64 a.num, .bool false]) (.agg #[.int .i64 kd, .int .i64 nm, .bool false])).run Tryz.prog wx = .ok (.bool (a.kind == kd && a.num == nm)) wx := fun wx => by rw [← eqA_obj a ⟨kd, nm, false⟩]; exact run_eqA a.obj ⟨kd, nm, false⟩ wx
          have hqH : Hid (Below W.heap.size W wq) := hbq
          clear hbq
          by_cases q : (a.kind == kd && a.num == nm) = true
          · rw [q] at heq
            have ht : Hid (usersTo l kd nm (j + 1) = usersTo l kd nm j ++ [(j : Int)]) := users_yes hx (List.any_eq_true.mpr ⟨a, ham, q⟩)
            clear q
            go_wp2_with (first
              | (go_at_call 127; (with_reducible refine (cO _ _ _ _).mono ?_); rintro e w1 ⟨rfl, hb1⟩; (have hB1 : Hid (Below W.heap.size W w1) := bthen (bthen hqH.out (boxed _ _)) hb1))
              | (at_builtin; (refine wpList_app1 rfl (.tmp 41) (.tmp 43) 33 rfl w.heap.size 3 iN _ 1 8 Tryz.underlying33 hiN hzN hsN hbN rfl (by decide) va vc ((usersTo l kd nm j).map chCells) (by rw [List.length_map]; rfl) (hOw.out _ hB1.out) (chCells (j : Int)) rfl rfl (one1u _) (by rw [List.length_map]; unfold maxLen; omega) (by rw [List.length_map]; omega) (hSz.out _ hB1.out) ?_); intro va' vc' w2 hg; rw [List.length_map]))
            go_roundw
            case rel => exact ⟨j + 1, va', vc', by omega, by go_num, by rw [ht.out, List.length_append]; rfl, below_min (hBe.out _ hB1.out) (hSz.out _ hB1.out) hg.be, by rw [ht.out, List.map_append]; exact hg.ow⟩
            case measure => simp [intOf]; omega
          · have q := Bool.eq_false_iff.mpr q
            rw [q] at heq
            have hno2 : Hid (∀ a ∈ x.of.take (m + 1), (a.kind == kd && a.num == nm) = false) := fun z hz => by
              rw [take_one x.of m a ha, List.mem_append, List.mem_singleton] at hz
              rcases hz with hz | rfl
              · exact hno.out z hz
              · exact q
            clear q
            go_wp2_with (first
              | (go_at_call 127; (with_reducible refine (cO _ _ _ _).mono ?_); rintro e w1 ⟨rfl, hb1⟩; (have hB1 : Hid (Below W.heap.size W w1) := bthen (bthen hqH.out (boxed _ _)) hb1)))
            go_roundw
            case rel => exact ⟨m + 1, by omega, by go_num, rfl, hB1.out, hno2⟩
            case measure => simp [intOf]; omega
        · have hm2 : m = N := by omega
          subst hm2
          rw [← hofl.out, List.take_length] at hno
          have ht : Hid (usersTo l kd nm (j + 1) = usersTo l kd nm j) := users_no hx (by
            rw [Bool.eq_false_iff]
            intro q
            obtain ⟨a, ha, q⟩ := List.any_eq_true.mp q
            rw [hno.out a ha] at q
            cases q)
          go_wp2
          go_roundw
          case rel => exact ⟨j + 1, va, vc, by omega, by go_num, by rw [ht.out], hBe.out _ hbq, by rw [ht.out]; exact hOw.out _ hbq⟩
          case measure => simp [intOf]; omega
    · have hj2 : j = l.length := by omega
      subst hj2
      go_wp2
      rw [Exit.noGoto_ret]
      go_ret2
      exact ⟨va, vc, rfl, own_rows stH.out.ow (len1u _), stH.out.be⟩
/-- Events that came in. -/
def EvsIn (w : World) (b : Option Addr) (c : Nat) (l : List Ev) : Prop := Rows w 26 b c (l.map Ev.cells) ∧ ∀ x ∈ l, x.wf
section
variable {H : Type} {enc : TypeId × Value → H} {w : World} {base : Nat} {spare : Nat → Bool} {held : Bool}
theorem evs_sz {n : Nat} {a : Option Addr} {len cap : Nat} {y : DataW H × List MemPlace} (h : DataW.trod enc Tryz.prog w base spare held n 22 [.slice a len cap] = some y) (hs : Sz Tryz.prog 22 y.1) : ∃ l : List Ev, l.length = len ∧ EvsIn w a cap l := by
  obtain ⟨l, rfl, h1, h2, h3⟩ := rows_sz (k := 26) ev0 Ev.cells Ev.wf Tryz.underlying22 (by kernel_rfl) (by omega) (fun n cs y hl h _ => ev_in hl h) h hs
  exact ⟨l, rfl, h1, h2⟩
end
set_option maxHeartbeats 1000000 in
theorem sameInts_u (l : List Int) (a b : Option Addr) (ca cb : Nat) (w : World) (ha : Rows w 1 a ca (l.map chCells)) (hb : Rows w 1 b cb (l.map chCells)) :
    Calls Tryz.prog 26 #[.slice a l.length ca, .slice b l.length cb] w fun e w' => e = .returned (.bool true) ∧ Below w.heap.size w w' := by
  have hlI : (l.length : Int) ≤ 9223372036854775807 := rows_len ha
  go_enter Tryz.func26, Tryz.ntmps26
  go_wp2_with fail
  go_loopw [13] (fun u wr => ∃ k : Nat, k ≤ l.length ∧ u = .int .i64 k ∧ Below w.heap.size w wr) (fun u _ => l.length - (intOf u).toNat)
  case atStart => exact ⟨0, Nat.zero_le _, rfl, Below.refl _ _⟩
  case round =>
    obtain ⟨k, hk, rfl, hbe⟩ := hrel
    by_cases hlt : k < l.length
    · obtain ⟨y, hy, hym⟩ := get_lt l k hlt
      obtain ⟨b1, o1, hix1, hbl1, c1⟩ := ch_ix (ha.later hbe) k y hy
      obtain ⟨b2, o2, hix2, hbl2, c2⟩ := ch_ix (hb.later hbe) k y hy
      have hkI : (k : Int) < l.length := by omega
      go_wp2_with fail
      go_quiet (fail)
      go_wp2
      go_roundw
      case rel => exact ⟨k + 1, by omega, by go_num, below_drewN hbe _⟩
      case measure => simp [intOf]; omega
    · have hk2 : k = l.length := by omega
      subst hk2
      go_wp2
      go_ret
      exact ⟨rfl, hbe⟩
end Go.Proofs.YtafefnkgdnmjbaaGreatDoor.pg
