/- The events that touch an object, by package depend; DependUses, walked. -/
import Derived.Test.YtmgafhcdnpklaaaRt6
namespace Go.Proofs.Ytmgafhcdnpklaaa.pg
open Go.ChangeShapes Go.WideShapes Go.ChangeAt Go.RowKit
set_option linter.unusedVariables false
set_option linter.unusedSimpArgs false
set_option maxRecDepth 100000
attribute [local go_sem ↓] Go.wp_at_zero Go.wp_at_succ
theorem users_bad (l : List Ev) (la : Option Addr) (lc : Nat) (kd nm : Int) (w : World) (hl : Rows w 26 la lc (l.map Ev.cells)) (c : Int) (hc : Hid (checkP l c)) (h0 : (c == 0) = false) : Calls Try.prog 13 #[.slice la l.length lc, .int .i64 kd, .int .i64 nm] w fun e w' => e = .returned (.tuple #[.slice none 0 0, .int .i64 c]) ∧ Below w.heap.size w w' := by
  have c1 : Calls Try.prog 5 #[.slice la l.length lc] w _ := check_any l la lc w hl c hc
  clear hl hc
  go_enter Try.func13, Try.ntmps13
  go_wp2
  go_step3
  go_wp2_with (go_at_call 5; (with_reducible refine c1.mono ?_); rintro e w1 ⟨rfl, hb1⟩)
  rw [Exit.noGoto_ret]
  go_ret2
  exact ⟨rfl, hb1⟩
set_option maxHeartbeats 2000000 in
theorem users_any (l : List Ev) (la : Option Addr) (lc : Nat) (kd nm : Int) (w : World) (hl : Rows w 26 la lc (l.map Ev.cells)) (hsm : l.length ≤ 256) (hrt : ∀ x ∈ l, rightP x) : Calls Try.prog 13 #[.slice la l.length lc, .int .i64 kd, .int .i64 nm] w fun e w' => ∃ va vc, e = .returned (.tuple #[.slice va (usersTo l kd nm l.length).length vc, .int .i64 0]) ∧ Rows w' 1 va vc ((usersTo l kd nm l.length).map chCells) ∧ Below w.heap.size w w' := by
  have c1 : Calls Try.prog 5 #[.slice la l.length lc] w _ := check_any l la lc w hl 0 (.inr (.inr ⟨hsm, hrt, rfl⟩))
  have hlH : Hid (Rows w 26 la lc (l.map Ev.cells)) := hl
  have hrtH : Hid (∀ x ∈ l, rightP x) := hrt
  clear hl hrt
  obtain ⟨iN, hiN, hzN, hsN, hbN⟩ := info_q infoN_u
  have huH : Hid (Try.prog.underlying 49 = _) := Try.underlying49
  have hiH : Hid ((Try.prog.info? 49).map (·.size) = some 26) := infoE26
  have cO : ∀ (k n : Int) (r : Bool) wx, Calls Try.prog 20 #[.agg #[.int .i64 k, .int .i64 n, .bool r]] wx _ := fun k n r wx => object_any ⟨k, n, r⟩ wx
  go_enter Try.func13, Try.ntmps13
  go_wp2
  go_step3
  go_wp2_with (go_at_call 5; (with_reducible refine c1.mono ?_); rintro e w0 ⟨rfl, hb0⟩)
  have hb0H : Hid (Below w.heap.size w w0) := hb0
  clear c1 hb0
  go_step3
  go_wp2
  go_loopw [9, 21] (fun o u wr => ∃ (j : Nat) (va : Option Addr) (vc : Nat), j ≤ l.length ∧ u = .int .i64 j ∧ o = .slice va (usersTo l kd nm j).length vc ∧ Hid (USt w l kd nm j va vc wr)) (fun _ u _ => l.length - (intOf u).toNat)
  case atStart => exact ⟨0, none, 0, Nat.zero_le _, rfl, rfl, hb0H.out, own_nil_q _ _ _ _⟩
  case round =>
    obtain ⟨j, va, vc, hj, rfl, rfl, stH⟩ := hrel
    by_cases hlt : j < l.length
    · obtain ⟨x, hx, hxm⟩ := get_lt l j hlt
      obtain ⟨b0, o0, hix, hbl, hrg⟩ := ev_row (hlH.out.later stH.out.be) j x hx
      have hrH : Hid (wr.rangeAt b0 o0 x.cells) := hrg
      have hjI : (j : Int) < l.length := by omega
      have hul := users_len l kd nm j
      have hxr : Hid (rightP x) := hrtH.out x hxm
      have bx := boxE_new wr x
      have c25 : (wr.alloc (objE x)).cell? ⟨wr.heap.size, 25, none⟩ = some (.int .i64 x.n) := bx.at 25 _ rfl
      have hbxH : Hid (BoxE (wr.alloc (objE x)) wr.heap.size x) := bx
      obtain ⟨N, hN⟩ : ∃ N, N = tN x.n := ⟨_, rfl⟩
      have hNI : ((N : Nat) : Int) = x.n := by rw [hN]; exact tN_eq hxr.out.1.2.2.1 hxr.out.1.2.2.2
      have hN16 : 1 ≤ N ∧ N ≤ 6 := by have := hxr.out.1; omega
      obtain ⟨sl1, _, _, _⟩ := slice_two wr.heap.size N hN16.1 hN16.2
      rw [hNI] at sl1
      have hofl : Hid (x.of.length = N) := by show _ = _; rw [hN, Ev.of_len]
      clear hrg bx hN hNI
      go_upto_region 8 with (first
        | (refine wpList_load_mid rfl 49 _ rfl b0 o0 rfl x.cells _ hrH.out huH.out rfl hiH.out ?_)
        | (refine wpList_store_new rfl 49 _ _ rfl rfl _ x.cells.toArray rfl (by kernel_rfl) rfl (ev_one x) ?_))
      change Code.wp _ _ _ _ (wr.alloc (objE x))
      have st1 : Hid (USt w l kd nm j va vc (wr.alloc (objE x))) := stH.out.later (boxed _ _)
      generalize wr.alloc (objE x) = W at *
      go_frame
      go_wp2
      have hLr : Hid (Rows W 3 (some ⟨wr.heap.size, 7, none⟩) 6 (x.of.map Acc.cells)) := rowsE hbxH.out
      have hN6 : (N : Int) ≤ 6 := by omega
      have hOw : Hid (∀ wx, Below W.heap.size W wx → OwnL wx w.heap.size 3 1 va vc ((usersTo l kd nm j).map chCells)) := fun wx h => (st1.out.later h).ow
      have hSz : Hid (∀ wx, Below W.heap.size W wx → w.heap.size ≤ wx.heap.size) := fun wx h => (st1.out.later h).be.size
      have hBe : Hid (∀ wx, Below W.heap.size W wx → Below w.heap.size w wx) := fun wx h => (st1.out.later h).be
      clear c25 sl1
      go_loopw [9, 31] (fun o u wq => ∃ m : Nat, m ≤ N ∧ u = .int .i64 m ∧ o = .slice va (usersTo l kd nm j).length vc ∧ Below W.heap.size W wq ∧ Hid (∀ a ∈ x.of.take m, (a.kind == kd && a.num == nm) = false)) (fun _ u _ => N - (intOf u).toNat)
      case atStart => exact ⟨0, Nat.zero_le _, rfl, rfl, Below.refl _ _, fun a ha => by simp at ha⟩
      case round =>
        rename World => wq
        obtain ⟨m, hm, rfl, rfl, hbq, hno⟩ := hrel
        by_cases hlt2 : m < N
        · obtain ⟨a, ha, ham⟩ := get_lt x.of m (by rw [hofl.out]; exact hlt2)
          obtain ⟨b1, o1, hix1, hbl1, k0, k1, k2⟩ := acc_ix (hLr.out.later hbq) m a ha
          rw [hofl.out] at hix1
          have hmI : (m : Int) < N := by omega
          have heq : ∀ wx, (binOp .eql 46 (.agg #[.int .i64 a.kind, .int .i64 a.num, .bool false]) (.agg #[.int .i64 kd, .int .i64 nm, .bool false])).run Try.prog wx = .ok (.bool (a.kind == kd && a.num == nm)) wx := fun wx => by rw [← eqA_obj a ⟨kd, nm, false⟩]; exact run_eqA a.obj ⟨kd, nm, false⟩ wx
          have hqH : Hid (Below W.heap.size W wq) := hbq
          clear hbq
          by_cases q : (a.kind == kd && a.num == nm) = true
          · rw [q] at heq
            have ht : Hid (usersTo l kd nm (j + 1) = usersTo l kd nm j ++ [(j : Int)]) := users_yes hx (List.any_eq_true.mpr ⟨a, ham, q⟩)
            clear q
            go_wp2_with (first
              | (go_at_call 20; (with_reducible refine (cO _ _ _ _).mono ?_); rintro e w1 ⟨rfl, hb1⟩; (have hB1 : Hid (Below W.heap.size W w1) := bthen (bthen hqH.out (boxed _ _)) hb1))
              | (at_builtin; (refine wpList_app1 rfl (.tmp 41) (.tmp 43) 38 rfl w.heap.size 3 iN _ 1 8 Try.underlying38 hiN hzN hsN hbN rfl (by decide) va vc ((usersTo l kd nm j).map chCells) (by rw [List.length_map]; rfl) (hOw.out _ hB1.out) (chCells (j : Int)) rfl rfl (one1u _) (by rw [List.length_map]; unfold maxLen; omega) (by rw [List.length_map]; omega) (hSz.out _ hB1.out) ?_); intro va' vc' w2 hg; rw [List.length_map]))
            go_roundw
            case rel => exact ⟨j + 1, va', vc', by omega, by go_num, by rw [ht.out, List.length_append]; rfl, below_min (hBe.out _ hB1.out) (hSz.out _ hB1.out) hg.be, by rw [ht.out, List.map_append]; exact hg.ow⟩
            case measure => simp [intOf]; omega
          · have q := Bool.eq_false_iff.mpr q
            rw [q] at heq
            have hno2 : Hid (∀ a ∈ x.of.take (m + 1), (a.kind == kd && a.num == nm) = false) := fun z hz => by
              rw [take_one x.of m a ha, List.mem_append, List.mem_singleton] at hz
              rcases hz with hz | rfl
              · exact hno.out z hz
              · exact q
            clear q
            go_wp2_with (first
              | (go_at_call 20; (with_reducible refine (cO _ _ _ _).mono ?_); rintro e w1 ⟨rfl, hb1⟩; (have hB1 : Hid (Below W.heap.size W w1) := bthen (bthen hqH.out (boxed _ _)) hb1)))
            go_roundw
            case rel => exact ⟨m + 1, by omega, by go_num, rfl, hB1.out, hno2⟩
            case measure => simp [intOf]; omega
        · have hm2 : m = N := by omega
          subst hm2
          rw [← hofl.out, List.take_length] at hno
          have ht : Hid (usersTo l kd nm (j + 1) = usersTo l kd nm j) := users_no hx (by
            rw [Bool.eq_false_iff]
            intro q
            obtain ⟨a, ha, q⟩ := List.any_eq_true.mp q
            rw [hno.out a ha] at q
            cases q)
          go_wp2
          go_roundw
          case rel => exact ⟨j + 1, va, vc, by omega, by go_num, by rw [ht.out], hBe.out _ hbq, by rw [ht.out]; exact hOw.out _ hbq⟩
          case measure => simp [intOf]; omega
    · have hj2 : j = l.length := by omega
      subst hj2
      go_wp2
      rw [Exit.noGoto_ret]
      go_ret2
      exact ⟨va, vc, rfl, own_rows stH.out.ow (len1u _), stH.out.be⟩
/-- Events that came in. -/
def EvsIn (w : World) (b : Option Addr) (c : Nat) (l : List Ev) : Prop := Rows w 26 b c (l.map Ev.cells) ∧ ∀ x ∈ l, x.wf
section
variable {H : Type} {enc : TypeId × Value → H} {w : World} {base : Nat} {spare : Nat → Bool} {held : Bool}
theorem evs_sz {n : Nat} {a : Option Addr} {len cap : Nat} {y : DataW H × List MemPlace} (h : DataW.trod enc Try.prog w base spare held n 22 [.slice a len cap] = some y) (hs : Sz Try.prog 22 y.1) : ∃ l : List Ev, l.length = len ∧ EvsIn w a cap l := by
  obtain ⟨l, rfl, h1, h2, h3⟩ := rows_sz (k := 26) ev0 Ev.cells Ev.wf Try.underlying22 (by kernel_rfl) (by omega) (fun n cs y hl h _ => ev_in hl h) h hs
  exact ⟨l, rfl, h1, h2⟩
end
set_option maxHeartbeats 1000000 in
theorem sameInts_u (l : List Int) (a b : Option Addr) (ca cb : Nat) (w : World) (ha : Rows w 1 a ca (l.map chCells)) (hb : Rows w 1 b cb (l.map chCells)) :
    Calls Try.prog 14 #[.slice a l.length ca, .slice b l.length cb] w fun e w' => e = .returned (.bool true) ∧ Below w.heap.size w w' := by
  have hlI : (l.length : Int) ≤ 9223372036854775807 := rows_len ha
  go_enter Try.func14, Try.ntmps14
  go_wp2_with fail
  go_loopw [13] (fun u wr => ∃ k : Nat, k ≤ l.length ∧ u = .int .i64 k ∧ Below w.heap.size w wr) (fun u _ => l.length - (intOf u).toNat)
  case atStart => exact ⟨0, Nat.zero_le _, rfl, Below.refl _ _⟩
  case round =>
    obtain ⟨k, hk, rfl, hbe⟩ := hrel
    by_cases hlt : k < l.length
    · obtain ⟨y, hy, hym⟩ := get_lt l k hlt
      obtain ⟨b1, o1, hix1, hbl1, c1⟩ := ch_ix (ha.later hbe) k y hy
      obtain ⟨b2, o2, hix2, hbl2, c2⟩ := ch_ix (hb.later hbe) k y hy
      have hkI : (k : Int) < l.length := by omega
      go_wp2_with fail
      go_quiet (fail)
      go_wp2
      go_roundw
      case rel => exact ⟨k + 1, by omega, by go_num, below_drewN hbe _⟩
      case measure => simp [intOf]; omega
    · have hk2 : k = l.length := by omega
      subst hk2
      go_wp2
      go_ret
      exact ⟨rfl, hbe⟩
set_option maxHeartbeats 1000000 in
theorem uses_any (l : List Ev) (la : Option Addr) (lc : Nat) (kd nm : Int) (w : World) (hl : EvsIn w la lc l) (_ : (Lit.int .i64 kd).wf = true) (_ : (Lit.int .i64 nm).wf = true) : Calls Try.prog 4 #[.slice la l.length lc, .int .i64 kd, .int .i64 nm] w fun e w' => e = .returned (.bool true) ∧ Below w.heap.size w w' := by
  obtain ⟨c, hc⟩ := check_ex l
  have c2 : ∀ wx, Below w.heap.size w wx → Calls Try.prog 8 #[.slice la l.length lc] wx _ := fun wx h => rcheck_any l la lc wx (hl.1.later h) c hc
  have c3 : ∀ wx, Calls Try.prog 9 #[] wx _ := fun wx => speaks_any wx
  by_cases h0 : c = 0
  · subst h0
    have hr : l.length ≤ 256 ∧ ∀ x ∈ l, rightP x := by
      rcases hc with ⟨_, q⟩ | ⟨_, _, q⟩ | ⟨q, r, _⟩
      · cases q
      · cases q
      · exact ⟨q, r⟩
    have c1 : Calls Try.prog 13 #[.slice la l.length lc, .int .i64 kd, .int .i64 nm] w _ := users_any l la lc kd nm w hl.1 hr.1 hr.2
    have c4 : ∀ wx, Below w.heap.size w wx → Calls Try.prog 15 #[.slice la l.length lc, .int .i64 kd, .int .i64 nm] wx _ := fun wx h => rusers_any l la lc kd nm wx (hl.1.later h) hr.1 hr.2
    have c5 : ∀ va vc ua uc wx, Rows wx 1 va vc ((usersTo l kd nm l.length).map chCells) → Rows wx 1 ua uc ((usersTo l kd nm l.length).map chCells) → Calls Try.prog 14 #[.slice va (usersTo l kd nm l.length).length vc, .slice ua (usersTo l kd nm l.length).length uc] wx _ := fun va vc ua uc wx h1 h2 => sameInts_u _ va ua vc uc wx h1 h2
    clear hl hc hr
    go_enter Try.func4, Try.ntmps4
    go_wp2_with (first
      | (go_at_call 13; (with_reducible refine c1.mono ?_); rintro e w1 ⟨va, vc, rfl, hr1, hb1⟩)
      | (go_at_call 8; (with_reducible refine (c2 _ hb1).mono ?_); rintro e w2 ⟨rfl, hb2⟩; (have hB2 : Hid (Below w.heap.size w w2) := bthen hb1 hb2); (have hr2 := hr1.later hb2))
      | (go_at_call 9; (with_reducible refine (c3 _).mono ?_); rintro e w3 ⟨rfl, hb3⟩; (have hB3 : Hid (Below w.heap.size w w3) := bthen hB2.out hb3); (have hr3 := hr2.later hb3))
      | (go_at_call 15; (with_reducible refine (c4 _ hB3.out).mono ?_); rintro e w4 ⟨ua, uc, rfl, hr4, hb4⟩; (have hB4 : Hid (Below w.heap.size w w4) := bthen hB3.out hb4))
      | (go_at_call 14; (with_reducible refine (c5 _ _ _ _ _ (hr3.later hb4) hr4).mono ?_); rintro e w5 ⟨rfl, hb5⟩))
    go_ret
    exact ⟨rfl, bthen hB4.out hb5⟩
  · have h0b : (c == 0) = false := by simpa using h0
    have c1 : Calls Try.prog 13 #[.slice la l.length lc, .int .i64 kd, .int .i64 nm] w _ := users_bad l la lc kd nm w hl.1 c hc h0b
    clear hl hc h0
    go_enter Try.func4, Try.ntmps4
    go_wp2_with (first
      | (go_at_call 13; (with_reducible refine c1.mono ?_); rintro e w1 ⟨rfl, hb1⟩)
      | (go_at_call 8; (with_reducible refine (c2 _ hb1).mono ?_); rintro e w2 ⟨rfl, hb2⟩; (have hB2 : Hid (Below w.heap.size w w2) := bthen hb1 hb2))
      | (go_at_call 9; (with_reducible refine (c3 _).mono ?_); rintro e w3 ⟨rfl, hb3⟩; (have hB3 : Hid (Below w.heap.size w w3) := bthen hB2.out hb3)))
    go_ret
    exact ⟨rfl, hB3.out⟩
end Go.Proofs.Ytmgafhcdnpklaaa.pg
