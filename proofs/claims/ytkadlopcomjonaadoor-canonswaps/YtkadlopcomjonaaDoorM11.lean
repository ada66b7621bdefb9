/- Whether an event may stand in a trace: the contract of package depend's right. -/
import Derived.Test.YtkadlopcomjonaaDoorM10
import Derived.Test.YtkadlopcomjonaaDoorM4
import Derived.Shelf.Abstract
import Derived.WalkKit
namespace Go.Proofs.YtkadlopcomjonaaDoor.pg
open Go.ChangeShapes Go.WideShapes Go.ChangeAt Go.RowKit
set_option linter.unusedVariables false
set_option linter.unusedSimpArgs false
set_option maxRecDepth 100000
attribute [local go_sem ↓] Go.wp_at_zero Go.wp_at_succ
theorem ok_more {l : List Acc} {k : Nat} (h : ∀ i, i < k → okA l i) (h2 : okA l k) : ∀ i, i < k + 1 → okA l i := fun i hi => by
  by_cases e : i = k
  · subst e; exact h2
  · exact h i (by omega)
theorem calls_same {P : Program} {f : FuncId} {args : Array Value} {W : World} {s : Cls (Bey W)} {v : Value} (h : Calls P f args s.w fun e w' => e = .returned v ∧ w' = s.w) : Calls P f args s.w fun e w'' => e = .returned v ∧ ∃ t : Cls (Bey W), w'' = t.w :=
  calls_cls h fun w' hb => by rw [hb]; exact s.h
set_option maxHeartbeats 2000000 in
theorem right_yes1 (x : Ev) (w : World) (h0 : 0 ≤ x.go) (h1 : x.go < 6) (h2 : 1 ≤ x.n) (h3 : x.n ≤ 6) (R : Bool) (hR : Hid (R = true ↔ rightP x)) : Calls Tryd.prog 65 #[x.val] w fun e w' => e = .returned (.bool R) ∧ Below w.heap.size w w' := by
  obtain ⟨N, hN⟩ : ∃ N, N = tN x.n := ⟨_, rfl⟩
  have hNI : ((N : Nat) : Int) = x.n := by rw [hN]; exact tN_eq h2 h3
  have hb := boxed w (objE x)
  have bx := boxE_new w x
  have hll : x.list.length = 6 := rfl
  obtain ⟨sl1, ra, sl2, hra⟩ := slice_two w.heap.size N (by omega) (by omega)
  rw [hNI] at sl1 sl2
  have hN1 : Hid (1 ≤ N ∧ N ≤ 6) := ⟨by omega, by omega⟩
  have hofl : Hid (x.of = x.list.take N) := by show _ = _; rw [hN]; rfl
  have hRH : Hid (R = true ↔ (∀ i, i < N → okA x.list i) ∧ (∀ a ∈ x.list.drop N, a = acc0) ∧ (⟨5, x.go, true⟩ : Acc) ∈ x.list.take N) := by
    show _ ↔ _
    rw [hR.out]
    unfold rightP
    rw [← hN, hofl.out]
    exact ⟨fun q => q.2, fun q => ⟨⟨h0, h1, h2, h3⟩, q⟩⟩
  clear hR
  have hNH : Hid (N = tN x.n) := hN
  have hNIH : Hid (((N : Nat) : Int) = x.n) := hNI
  clear hN hNI
  have h0' : ¬ x.go < 0 := by omega
  have h2' : ¬ x.n < 1 := by omega
  go_enter Tryd.func65, Tryd.ntmps65
  go_upto_region 3 with fail
  generalize w.alloc (objE x) = W at *
  have hbH : Hid (Below w.heap.size w W) := hb
  have bxH : Hid (BoxE W w.heap.size x) := bx
  have c25 : W.cell? ⟨w.heap.size, 25, none⟩ = some (.int .i64 x.n) := bx.at 25 _ rfl
  have raH : Hid (N < 6 → ra = ⟨w.heap.size, 7 + N * 3, none⟩) := hra
  clear hb bx hra
  refine wp_region_quiet_lit (by kernel_rfl) (by kernel_rfl) ?_
  repeat (go_big_quiet_step (fail))
  refine wpQuiet_nil ?_
  intro _ hw'
  obtain ⟨nq, hw''⟩ := hw'
  subst hw''
  --LOOP
  obtain ⟨L, hL⟩ : ∃ L, L = x.list.take N := ⟨_, rfl⟩
  have hLl : L.length = N := by rw [hL, List.length_take, hll]; exact Nat.min_eq_left hN1.out.2
  have hLr : Hid (Rows W 3 (some ⟨w.heap.size, 7, none⟩) 6 (L.map Acc.cells)) := by rw [hL, ← hofl.out]; exact rowsE bxH.out
  have hLat : Hid (∀ i, i < N → L[i]? = x.list[i]?) := fun i hi => by rw [hL, List.getElem?_take, if_pos hi]
  have hLH : Hid (L = x.list.take N) := hL
  clear hL
  have hN6 : (N : Int) ≤ 6 := by have := hN1.out.2; omega
  have hN1' : (1 : Int) ≤ N := by have := hN1.out.1; omega
  have hM6 : ((6 - N : Nat) : Int) = 6 - N := by omega
  clear c25 sl1 sl2
  go_wp2
  go_loopw [37] (fun u wr => ∃ k : Nat, k ≤ N ∧ u = .int .i64 k ∧ Below W.heap.size W wr ∧ Hid (∀ i, i < k → okA x.list i)) (fun u _ => N - (intOf u).toNat)
  case atStart => exact ⟨0, Nat.zero_le _, rfl, below_drewN (Below.refl _ _) nq, fun i hi => by omega⟩
  case round =>
    obtain ⟨k, hk, rfl, hb2, hok⟩ := hrel
    by_cases hlt : k < N
    · obtain ⟨a, ha, ham⟩ := get_lt L k (by omega)
      obtain ⟨b0, o0, hix, hbl, k0, k1, k2⟩ := acc_ix (hLr.out.later hb2) k a ha
      rw [hLl] at hix
      have hax : Hid (x.list[k]? = some a) := (hLat.out k hlt).symm.trans ha
      have hkI : (k : Int) < N := by omega
      have hgood0 : Hid (k = 0 → 0 ≤ a.num → a.num < manyP a.kind → okA x.list k) := fun e p q a' ha' => by
        rw [hax.out] at ha'
        cases ha'
        exact ⟨⟨p, q⟩, fun h => by omega⟩
      have hgood1 : Hid (∀ b, x.list[k - 1]? = some b → 0 ≤ a.num → a.num < manyP a.kind → bef b a = true → okA x.list k) := fun b hb p q r a' ha' => by
        rw [hax.out] at ha'
        cases ha'
        exact ⟨⟨p, q⟩, fun h b' hb' => by rw [hb] at hb'; cases hb'; exact r⟩
      have hbad0 : Hid (¬ (0 ≤ a.num ∧ a.num < manyP a.kind) → ¬ okA x.list k) := fun q r => q (r a hax.out).1
      have hbad1 : Hid (∀ b, x.list[k - 1]? = some b → 0 < k → bef b a = false → ¬ okA x.list k) := fun b hb p q r => by
        have := (r a hax.out).2 p b hb
        rw [q] at this
        cases this
      have cM : ∀ m wx, Calls Tryd.prog 69 #[.int .i64 m] wx _ := fun m wx => many_any m wx
      have cC : ∀ (p q : Int) (r : Bool) (u v : Int) (t : Bool) wx, Calls Tryd.prog 70 #[.agg #[.int .i64 p, .int .i64 q, .bool r], .agg #[.int .i64 u, .int .i64 v, .bool t]] wx _ := fun p q r u v t wx => compare_any ⟨p, q, r⟩ ⟨u, v, t⟩ wx
      have hprev : 0 < k → ∃ (b : Acc) (b1 o1 : Nat), Hid (x.list[k - 1]? = some b) ∧ (∀ wx, (Instr.indexAt 53 (.slice (some ⟨w.heap.size, 7, none⟩) N 6) (.int .i64 ((k : Int) - 1))).run Tryd.prog wx = .ok (.pointer (some ⟨b1, o1, none⟩)) wx) ∧ wr.cell? ⟨b1, o1, none⟩ = some (.int .i64 b.kind) ∧ wr.cell? ⟨b1, o1 + 1, none⟩ = some (.int .i64 b.num) ∧ wr.cell? ⟨b1, o1 + 2, none⟩ = some (.bool b.wr) := fun hp => by
        obtain ⟨b, hb', _⟩ := get_lt L (k - 1) (by omega)
        obtain ⟨b1, o1, hix1, _, m0, m1, m2⟩ := acc_ix (hLr.out.later hb2) (k - 1) b hb'
        rw [hLl, show ((k - 1 : Nat) : Int) = (k : Int) - 1 by omega] at hix1
        exact ⟨b, b1, o1, (hLat.out (k - 1) (by omega)).symm.trans hb', hix1, m0, m1, m2⟩
      go_wp2_with fail
      generalize hWW : wr.alloc (objA a) = W2 at *
      have hW2 : Hid (Below W.heap.size W W2) := by rw [← hWW]; exact bthen hb2 (boxed _ _)
      have hWr : Hid (Below wr.heap.size wr W2) := by rw [← hWW]; exact boxed _ _
      have bA : BoxA W2 wr.heap.size a := by rw [← hWW]; exact boxA_new wr a
      clear hWW k0 k1 k2 hbl
      have d0 := bey_cell bA.1
      have d1 := bey_cell bA.2.1
      have d2 := bey_cell bA.2.2
      have hne := bey_some W2
      clear bA
      by_cases hA : a.num < 0
      · have hbad : Hid (¬ okA x.list k) := hbad0.out (by omega)
        clear hprev
        refine wp_region_cls (Bey W2) (by kernel_rfl) (by kernel_rfl) (bey_drew W2) ?_
        repeat (go_big_quiet_step ((first | (go_at_call 69; exact calls_same (cM _ _)) | (go_at_call 70; exact calls_bey (cC _ _ _ _ _ _ _)))))
        refine wpQuiet_nil ?_
        intro _ hw'
        obtain ⟨sq, hw''⟩ := hw'
        subst hw''
        have hBq : Hid (Below W.heap.size W sq.w) := bthen hW2.out sq.h
        go_wp2
        go_ret
        exact ⟨ret_b (by rw [eq_comm, Bool.eq_false_iff]; exact fun q => hbad.out ((hRH.out.mp q).1 k hlt)), bthen hbH.out hBq.out⟩
      · by_cases hB : manyP a.kind ≤ a.num
        · have hbad : Hid (¬ okA x.list k) := hbad0.out (by omega)
          clear hprev
          refine wp_region_cls (Bey W2) (by kernel_rfl) (by kernel_rfl) (bey_drew W2) ?_
          repeat (go_big_quiet_step ((first | (go_at_call 69; exact calls_same (cM _ _)) | (go_at_call 70; exact calls_bey (cC _ _ _ _ _ _ _)))))
          refine wpQuiet_nil ?_
          intro _ hw'
          obtain ⟨sq, hw''⟩ := hw'
          subst hw''
          have hBq : Hid (Below W.heap.size W sq.w) := bthen hW2.out sq.h
          go_wp2
          go_ret
          exact ⟨ret_b (by rw [eq_comm, Bool.eq_false_iff]; exact fun q => hbad.out ((hRH.out.mp q).1 k hlt)), bthen hbH.out hBq.out⟩
        · by_cases hp : 0 < k
          · obtain ⟨b, b1, o1, hbx, hix1, m0, m1, m2⟩ := hprev hp
            have f0 := bey_cell (cell_later hWr.out m0)
            have f1 := bey_cell (cell_later hWr.out m1)
            have f2 := bey_cell (cell_later hWr.out m2)
            have hpI : (0 : Int) < k := by omega
            have hcb := cmpA_bef b a
            have hcb2 : Hid (0 ≤ cmpA b a ↔ bef b a = false) := hcb
            have hcm : cmpA b a = cmpA ⟨b.kind, b.num, b.wr⟩ ⟨a.kind, a.num, a.wr⟩ := rfl
            clear m0 m1 m2 hprev hcb hcm
            by_cases hC : 0 ≤ cmpA b a
            · have hbad : Hid (¬ okA x.list k) := hbad1.out b hbx.out hp (hcb2.out.mp hC)
              refine wp_region_cls (Bey W2) (by kernel_rfl) (by kernel_rfl) (bey_drew W2) ?_
              repeat (go_big_quiet_step ((first | (go_at_call 69; exact calls_same (cM _ _)) | (go_at_call 70; exact calls_bey (cC _ _ _ _ _ _ _)))))
              refine wpQuiet_nil ?_
              intro _ hw'
              obtain ⟨sq, hw''⟩ := hw'
              subst hw''
              have hBq : Hid (Below W.heap.size W sq.w) := bthen hW2.out sq.h
              go_wp2
              go_ret
              exact ⟨ret_b (by rw [eq_comm, Bool.eq_false_iff]; exact fun q => hbad.out ((hRH.out.mp q).1 k hlt)), bthen hbH.out hBq.out⟩
            · have hgood : Hid (okA x.list k) := hgood1.out b hbx.out (by omega) (by omega) (by
                cases hq : bef b a with
                | true => rfl
                | false => exact absurd (hcb2.out.mpr hq) hC)
              refine wp_region_cls (Bey W2) (by kernel_rfl) (by kernel_rfl) (bey_drew W2) ?_
              repeat (go_big_quiet_step ((first | (go_at_call 69; exact calls_same (cM _ _)) | (go_at_call 70; exact calls_bey (cC _ _ _ _ _ _ _)))))
              refine wpQuiet_nil ?_
              intro _ hw'
              obtain ⟨sq, hw''⟩ := hw'
              subst hw''
              have hBq : Hid (Below W.heap.size W sq.w) := bthen hW2.out sq.h
              go_wp2
              go_roundw
              case rel => exact ⟨k + 1, by omega, by go_num, hBq.out, ok_more hok.out hgood.out⟩
              case measure => simp [intOf]; omega
          · have hpI : ¬ (0 : Int) < k := by omega
            have hgood : Hid (okA x.list k) := hgood0.out (by omega) (by omega) (by omega)
            clear hprev
            refine wp_region_cls (Bey W2) (by kernel_rfl) (by kernel_rfl) (bey_drew W2) ?_
            repeat (go_big_quiet_step ((first | (go_at_call 69; exact calls_same (cM _ _)) | (go_at_call 70; exact calls_bey (cC _ _ _ _ _ _ _)))))
            refine wpQuiet_nil ?_
            intro _ hw'
            obtain ⟨sq, hw''⟩ := hw'
            subst hw''
            have hBq : Hid (Below W.heap.size W sq.w) := bthen hW2.out sq.h
            go_wp2
            go_roundw
            case rel => exact ⟨k + 1, by omega, by go_num, hBq.out, ok_more hok.out hgood.out⟩
            case measure => simp [intOf]; omega
    · have hk2 : k = N := by omega
      subst hk2
      obtain ⟨D, hD⟩ : ∃ D, D = x.list.drop k := ⟨_, rfl⟩
      have hDl : D.length = 6 - k := by rw [hD, List.length_drop, hll]
      have hDr : Hid (Rows W 3 (some ra) (6 - k) (D.map Acc.cells)) := by rw [hD]; exact rows_rest bxH.out hN1.out.2 raH.out
      have hR2 : Hid (R = true ↔ (∀ a ∈ D, a = acc0) ∧ (⟨5, x.go, true⟩ : Acc) ∈ L) := by
        show _ ↔ _
        rw [hRH.out, hD, hLH.out]
        exact ⟨fun q => q.2, fun q => ⟨hok.out, q⟩⟩
      clear hD hRH
      go_wp2
      go_loopw [70] (fun u wq => ∃ m : Nat, m ≤ 6 - k ∧ u = .int .i64 m ∧ Below W.heap.size W wq ∧ Hid (∀ a ∈ D.take m, a = acc0)) (fun u _ => 6 - k - (intOf u).toNat)
      case atStart => exact ⟨0, Nat.zero_le _, rfl, hb2, fun a ha => by simp at ha⟩
      case round =>
        rename World => wq
        obtain ⟨m, hm, rfl, hb3, hz⟩ := hrel
        by_cases hlt2 : m < 6 - k
        · obtain ⟨a, ha, ham⟩ := get_lt D m (by omega)
          obtain ⟨b0, o0, hix, hbl, k0, k1, k2⟩ := acc_ix (hDr.out.later hb3) m a ha
          rw [hDl] at hix
          have hmI : (m : Int) < 6 - k := by omega
          have heq := fun wx => run_neA a acc0 wx
          by_cases e : a = acc0
          · rw [(eqA_iff a acc0).mpr e] at heq
            have eH : Hid (∀ a ∈ D.take (m + 1), a = acc0) := fun z hz2 => by
              rw [take_one D m a ha, List.mem_append, List.mem_singleton] at hz2
              rcases hz2 with hz2 | rfl
              · exact hz.out z hz2
              · exact e
            clear e
            go_wp2
            go_roundw
            case rel => exact ⟨m + 1, by omega, by go_num, bthen hb3 (boxed _ _), eH⟩
            case measure => simp [intOf]; omega
          · rw [Bool.eq_false_iff.mpr fun q => e ((eqA_iff a acc0).mp q)] at heq
            have hbad : Hid (¬ ∀ a ∈ D, a = acc0) := fun q => e (q a ham)
            clear e
            go_wp2
            go_ret
            exact ⟨ret_b (by rw [eq_comm, Bool.eq_false_iff]; exact fun q => hbad.out (hR2.out.mp q).1), bthen hbH.out (bthen hb3 (boxed _ _))⟩
        · have hm2 : m = 6 - k := by omega
          subst hm2
          rw [← hDl, List.take_length] at hz
          have c0 : wq.cell? ⟨w.heap.size, 0, none⟩ = some (.int .i64 x.go) := (bxH.out.later hb3).at 0 _ rfl
          have cK : Calls Tryd.prog 71 #[.slice (some ⟨w.heap.size, 7, none⟩) k 6, .agg #[.int .i64 5, .int .i64 x.go, .bool true]] wq (fun e w' => e = .returned (.bool R) ∧ Below wq.heap.size wq w') := by
            have := contains_any L (some ⟨w.heap.size, 7, none⟩) 6 ⟨5, x.go, true⟩ wq (hLr.out.later hb3) R (hR2.out.trans ⟨fun q => q.2, fun q => ⟨hz.out, q⟩⟩)
            rw [hLl] at this
            exact this
          go_wp2_with (go_at_call 71; (with_reducible refine cK.mono ?_); rintro e w5 ⟨rfl, hb5⟩)
          go_ret
          exact ⟨rfl, bthen hbH.out (bthen hb3 hb5)⟩
theorem right_any (x : Ev) (w : World) (R : Bool) (hR : Hid (R = true ↔ rightP x)) : Calls Tryd.prog 65 #[x.val] w fun e w' => e = .returned (.bool R) ∧ Below w.heap.size w w' := by
  by_cases h : 0 ≤ x.go ∧ x.go < 6 ∧ 1 ≤ x.n ∧ x.n ≤ 6
  · exact right_yes1 x w h.1 h.2.1 h.2.2.1 h.2.2.2 R hR
  · have : R = false := by
      rw [Bool.eq_false_iff]
      exact fun q => h (hR.out.mp q).1
    rw [this]
    exact right_no1 x w (by omega)
end Go.Proofs.YtkadlopcomjonaaDoor.pg
/- Whether events are a trace, by package depend. -/
namespace Go.Proofs.YtkadlopcomjonaaDoor.pg
open Go.ChangeShapes Go.WideShapes Go.ChangeAt Go.RowKit
set_option linter.unusedVariables false
set_option linter.unusedSimpArgs false
set_option maxRecDepth 100000
attribute [local go_sem ↓] Go.wp_at_zero Go.wp_at_succ
/-- What is wrong with events, if they are no trace. -/
def checkP (l : List Ev) (c : Int) : Prop := (256 < l.length ∧ c = 2) ∨ (l.length ≤ 256 ∧ (∃ x ∈ l, ¬ rightP x) ∧ c = 7) ∨ (l.length ≤ 256 ∧ (∀ x ∈ l, rightP x) ∧ c = 0)
theorem check_ex (l : List Ev) : ∃ c, checkP l c := by
  by_cases h : 256 < l.length
  · exact ⟨2, .inl ⟨h, rfl⟩⟩
  · by_cases g : ∃ x ∈ l, ¬ rightP x
    · exact ⟨7, .inr (.inl ⟨by omega, g, rfl⟩)⟩
    · exact ⟨0, .inr (.inr ⟨by omega, fun x hx => Classical.byContradiction fun q => g ⟨x, hx, q⟩, rfl⟩)⟩
theorem ev_row {w : World} {a : Option Addr} {cap : Nat} {l : List Ev} (h : Rows w 26 a cap (l.map Ev.cells)) (i : Nat) (x : Ev) (hi : l[i]? = some x) :
    ∃ b o, (∀ wx, (Instr.indexAt 22 (.slice a l.length cap) (.int .i64 (i : Int))).run Tryd.prog wx = .ok (.pointer (some ⟨b, o, none⟩)) wx) ∧ b < w.heap.size ∧ w.rangeAt b o x.cells := by
  obtain ⟨b, o, hr, hlt, hc⟩ := h.ix 22 42 Tryd.underlying22 (by kernel_rfl) (fun wx => Tryd.sizeOf42 wx) i (row := x.cells) (by simp [hi])
  rw [List.length_map] at hr
  exact ⟨b, o, hr, hlt, hc⟩
theorem infoE26 : (Tryd.prog.info? 42).map (·.size) = some 26 := by kernel_rfl
set_option maxHeartbeats 1000000 in
theorem check_any (l : List Ev) (la : Option Addr) (lc : Nat) (w : World) (hl : Rows w 26 la lc (l.map Ev.cells)) (c : Int) (hc : Hid (checkP l c)) : Calls Tryd.prog 61 #[.slice la l.length lc] w fun e w' => e = .returned (.int .i64 c) ∧ Below w.heap.size w w' := by
  have hlI := rows_len hl
  have hlH : Hid (Rows w 26 la lc (l.map Ev.cells)) := hl
  clear hl
  by_cases hlong : 256 < l.length
  · have hcc : c = 2 := by rcases hc.out with ⟨_, q⟩ | ⟨q, _⟩ | ⟨q, _⟩ <;> omega
    have hI : (256 : Int) < l.length := by omega
    subst hcc
    go_enter Tryd.func61, Tryd.ntmps61
    go_wp2
    go_ret
    exact ⟨rfl, Below.refl _ _⟩
  · have hI : ¬ (256 : Int) < l.length := by omega
    have huH : Hid (Tryd.prog.underlying 42 = _) := Tryd.underlying42
    have hiH : Hid ((Tryd.prog.info? 42).map (·.size) = some 26) := infoE26
    go_enter Tryd.func61, Tryd.ntmps61
    go_wp2
    go_loopw [10] (fun u wr => ∃ k : Nat, k ≤ l.length ∧ u = .int .i64 k ∧ Below w.heap.size w wr ∧ Hid (∀ x ∈ l.take k, rightP x)) (fun u _ => l.length - (intOf u).toNat)
    case atStart => exact ⟨0, Nat.zero_le _, rfl, Below.refl _ _, fun x hx => by simp at hx⟩
    case round =>
      obtain ⟨k, hk, rfl, hb2, hok⟩ := hrel
      by_cases hlt : k < l.length
      · obtain ⟨x, hx, hxm⟩ := get_lt l k hlt
        obtain ⟨b0, o0, hix, hbl, hrg⟩ := ev_row (hlH.out.later hb2) k x hx
        have hrH : Hid (wr.rangeAt b0 o0 x.cells) := hrg
        have hkI : (k : Int) < l.length := by omega
        have hbx : Hid ((wr.alloc (objE x)).rangeAt wr.heap.size 0 x.cells) := (boxE_new wr x).range
        clear hrg
        by_cases e : rightP x
        · have c1 : ∀ wx, Calls Tryd.prog 65 #[.agg x.cells.toArray] wx _ := fun wx => right_any x wx true ⟨fun _ => e, fun _ => rfl⟩
          have hok2 : Hid (∀ x ∈ l.take (k + 1), rightP x) := fun z hz => by
            rw [take_one l k x hx, List.mem_append, List.mem_singleton] at hz
            rcases hz with hz | rfl
            · exact hok.out z hz
            · exact e
          clear e
          go_wp2_with (first
            | (refine wpList_load_mid rfl 42 _ rfl b0 o0 rfl x.cells _ hrH.out huH.out rfl hiH.out ?_)
            | (refine wpList_store_new rfl 42 _ _ rfl rfl _ x.cells.toArray rfl (by kernel_rfl) rfl (ev_one x) ?_)
            | (refine wpList_load_mid rfl 42 _ rfl wr.heap.size 0 rfl x.cells _ hbx.out huH.out rfl hiH.out ?_)
            | (go_at_call 65; (with_reducible refine (c1 _).mono ?_); rintro e w1 ⟨rfl, hb1⟩))
          go_roundw
          case rel => exact ⟨k + 1, by omega, by go_num, bthen hb2 (bthen (boxed _ (objE x)) hb1), hok2⟩
          case measure => simp [intOf]; omega
        · have c1 : ∀ wx, Calls Tryd.prog 65 #[.agg x.cells.toArray] wx _ := fun wx => right_any x wx false ⟨(fun q => by cases q), fun q => absurd q e⟩
          have hcc : Hid (c = 7) := by
            rcases hc.out with ⟨q, _⟩ | ⟨_, _, q⟩ | ⟨_, q, _⟩
            · omega
            · exact q
            · exact absurd (q x hxm) e
          clear e
          go_wp2_with (first
            | (refine wpList_load_mid rfl 42 _ rfl b0 o0 rfl x.cells _ hrH.out huH.out rfl hiH.out ?_)
            | (refine wpList_store_new rfl 42 _ _ rfl rfl _ x.cells.toArray rfl (by kernel_rfl) rfl (ev_one x) ?_)
            | (refine wpList_load_mid rfl 42 _ rfl wr.heap.size 0 rfl x.cells _ hbx.out huH.out rfl hiH.out ?_)
            | (go_at_call 65; (with_reducible refine (c1 _).mono ?_); rintro e w1 ⟨rfl, hb1⟩))
          go_ret
          exact ⟨by rw [hcc.out]; rfl, bthen hb2 (bthen (boxed _ (objE x)) hb1)⟩
      · have hk2 : k = l.length := by omega
        subst hk2
        rw [List.take_length] at hok
        have hcc : Hid (c = 0) := by
          rcases hc.out with ⟨q, _⟩ | ⟨_, ⟨x, hx, q⟩, _⟩ | ⟨_, _, q⟩
          · omega
          · exact absurd (hok.out x hx) q
          · exact q
        go_wp2
        go_ret
        exact ⟨by rw [hcc.out]; rfl, hb2⟩
end Go.Proofs.YtkadlopcomjonaaDoor.pg
/- slices.Backward of events: a contract for whatever loop stands over it. -/
namespace Go.Proofs.YtkadlopcomjonaaDoor.pg
open Go.ChangeShapes Go.WideShapes Go.ChangeAt Go.RowKit Go.Shelf
set_option linter.unusedVariables false
set_option linter.unusedSimpArgs false
set_option maxRecDepth 100000
attribute [local go_sem] Oper.semAt_some
/-- A load of many cells at once, inside a fence. -/
theorem inF_load_mid {F : Fence} {n : Nat} {P : Program} {ops : Array Oper} {rest : List Oper} {op : Oper} {a : Act} {w : World} {Q : Exit → Act → World → Prop} (hgd : op.guard = none) (ty : TypeId) (x : Operand) (ho : op.op = .load ty x)
    (b o : Nat) (hx : a.eval x = .pointer (some ⟨b, o, none⟩)) (cs : List Value) (d : TypeDesc) (hc : w.rangeAt b o cs)
    (hu : P.underlying ty = some d) (hd : d.isRow = true) (hi : (P.info? ty).map (·.size) = some cs.length)
    (h : wpListIn F n P ops Q rest (a.put op.dst (.agg cs.toArray)) w) : wpListIn F n P ops Q (op :: rest) a w :=
  wpListIn_plain hgd fun K hK => by
    refine ⟨fun f hf => ?_, ?_⟩
    · simp [Oper.about, ho] at hf
    · rw [Oper.semAt_plain F _ _ (by simp [ho])]
      unfold execOp
      simp only [ho, hx, Instr.loadAt, Instr.sureAddr, Sem.run_bind, Sem.run_pure, Result.andThen_ok, run_loadVar_mid w b o ty cs d hc hu hd hi]
      exact hK _ _ h
/-- The first k of the places below j, from the last one down. -/
def dn (j : Nat) : Nat → List { i : Nat // i < j }
  | 0 => []
  | k + 1 => if h : k < j then dn j k ++ [⟨j - 1 - k, by omega⟩] else dn j k
theorem dn_more {j k : Nat} (h : k < j) : dn j (k + 1) = dn j k ++ [⟨j - 1 - k, by omega⟩] := by rw [dn, dif_pos h]
theorem dn_len {j : Nat} : ∀ {k : Nat}, k ≤ j → (dn j k).length = k
  | 0, _ => rfl
  | k + 1, h => by rw [dn_more (by omega), List.length_append, dn_len (by omega), List.length_singleton]
/-- What a round keeps: what lay below n₀, and the iterator's own box. -/
def Keeps (n₀ Bs : Nat) (W W' : World) : Prop := Below n₀ W W' ∧ W'.heap[Bs]? = W.heap[Bs]?
theorem Keeps.trans {n₀ Bs : Nat} {A B C : World} (h : Keeps n₀ Bs A B) (k : Keeps n₀ Bs B C) : Keeps n₀ Bs A C := ⟨h.1.trans k.1, k.2.trans h.2⟩
theorem Keeps.refl (n₀ Bs : Nat) (W : World) : Keeps n₀ Bs W W := ⟨Below.refl _ _, rfl⟩
/-- The events, each at its place below n₀. -/
def EvAt (n₀ : Nat) (W : World) (a : Option Addr) (j cap : Nat) (ev : Nat → Ev) : Prop := ∀ i, i < j → ∃ b o, (∀ wx, (Instr.indexAt 22 (.slice a j cap) (.int .i64 (i : Int))).run Tryd.prog wx = .ok (.pointer (some ⟨b, o, none⟩)) wx) ∧ b < n₀ ∧ W.rangeAt b o (ev i).cells
theorem EvAt.below {n₀ : Nat} {W W' : World} {a : Option Addr} {j cap : Nat} {ev : Nat → Ev} (h : EvAt n₀ W a j cap ev) (hb : Below n₀ W W') : EvAt n₀ W' a j cap ev := fun i hi => by
  obtain ⟨b, o, h1, h2, h3⟩ := h i hi
  exact ⟨b, o, h1, h2, fun q v hv => (hb.cell (p := ⟨b, o + q, none⟩) h2).trans (h3 q v hv)⟩
set_option maxHeartbeats 2000000 in
theorem back1_in (F : Fence) (n : Nat) (hf : F.fn 72) (hro : F.round = none) (hn : 1 ≤ n) (lp Bs n₀ j cap : Nat) (a : Option Addr) (ev : Nat → Ev) (hj : j ≤ 256) (J Jx : List { i : Nat // i < j } → World → Prop)
    (hY : ∀ pre x W, J pre W → pre.length < j → YieldAt F (n - 1) Tryd.prog lp #[.int .i64 (x.1 : Int), .agg (ev x.1).cells.toArray] W fun e W' =>
      (e = .returned (.bool true) ∧ J (pre ++ [x]) W' ∧ Keeps n₀ Bs W W') ∨ (e = .returned (.bool false) ∧ Jx (pre ++ [x]) W'))
    (W : World) (hBs : W.heap[Bs]? = some (.cells #[.slice a j cap] 22)) (hc : EvAt n₀ W a j cap ev) (h0 : J [] W) :
    CallsIn F n Tryd.prog 72 #[.func (.yield lp) #[] #[], .pointer (some ⟨Bs, 0, none⟩)] W fun e W' => (∃ v, e = .returned v) ∧
      ((∃ ys, ys = dn j j ∧ J ys W') ∨ (∃ pre, True ∧ Jx pre W')) := by
  have hjI : (j : Int) ≤ 256 := by omega
  have huH : Hid (Tryd.prog.underlying 42 = _) := Tryd.underlying42
  have hiH : Hid ((Tryd.prog.info? 42).map (·.size) = some 26) := infoE26
  have hcell : ∀ {V : World}, Keeps n₀ Bs W V → V.cell? ⟨Bs, 0, none⟩ = some (.slice a j cap) := fun {V} hk => by
    have := hk.2.trans hBs
    simp [World.cell?, this]
  have hcW := hcell (Keeps.refl _ _ _)
  refine callsIn_of_wp Tryd.func72 rfl hf ?_ hro
  simp only [Tryd.ntmps72, List.size_toArray, List.length_cons, List.length_nil, Nat.reduceAdd, Nat.reduceSub, Array.replicate_succ, Array.replicate_zero, List.push_toArray, List.append_toArray, List.nil_append, List.cons_append]
  gi_wp2
  gi_loopw [3] (fun u wr => ∃ (k : Nat) (i : Int), k ≤ j ∧ u = .int .i64 i ∧ i = (j : Int) - 1 - k ∧ J (dn j k) wr ∧ Keeps n₀ Bs W wr)
    (fun u _ => (intOf u + 1).toNat)
  case atStart => exact ⟨0, (j : Int) - 1, Nat.zero_le _, by go_num, by simp, h0, Keeps.refl _ _ _⟩
  case round =>
    obtain ⟨k, i, hk, rfl, hi, hJs, hnx⟩ := hrel
    have hcx := hcell hnx
    by_cases hlt : k < j
    · have hjk : j - 1 - k < j := by omega
      have hi0 : 0 ≤ i := by omega
      have hi1 : i ≤ 256 := by omega
      have hie : ((j - 1 - k : Nat) : Int) = i := by omega
      obtain ⟨b, o, hix, hbn, hrg⟩ := (hc.below hnx.1) (j - 1 - k) (by omega)
      rw [hie] at hix
      obtain ⟨fn, tmps, assign, body, hy, hR⟩ := hY _ ⟨j - 1 - k, hjk⟩ wr hJs (by rw [dn_len hk]; exact hlt)
      dsimp only at hy
      rw [hie] at hy
      have hm := dn_more hlt
      generalize ev (j - 1 - k) = x at *
      have hrH : Hid (wr.rangeAt b o x.cells) := hrg
      have hiK : Hid (i = (j : Int) - 1 - k) := hi
      clear hrg hi hie
      gi_wp2_with (refine inF_load_mid rfl 42 _ rfl b o rfl x.cells _ hrH.out huH.out rfl hiH.out ?_)
      refine hR.mono ?_
      rintro e W3 (⟨rfl, hJ3, hk3⟩ | ⟨rfl, hJx3⟩)
      · gi_wp2
        go_roundw
        case rel => exact ⟨k + 1, i - 1, by omega, by go_num, by have := hiK.out; omega, by rw [hm]; exact hJ3, hnx.trans hk3⟩
        case measure => simp [intOf]; omega
      · gi_wp2
        refine bodyPost_ret (results_none rfl _ _ _) rfl ?_
        exact ⟨⟨_, rfl⟩, .inr ⟨_, trivial, hJx3⟩⟩
    · have hi0 : ¬ 0 ≤ i := by omega
      have hJj : J (dn j j) wr := by have hkj : k = j := by omega
                                     rw [hkj] at hJs; exact hJs
      clear hi hJs
      gi_wp2
      go_end0
      exact ⟨⟨_, rfl⟩, .inl hJj⟩
set_option maxHeartbeats 1000000 in
theorem back_any (a : Option Addr) (len cap : Nat) (w : World) : Calls Tryd.prog 66 #[.slice a len cap] w fun e w' => e = .returned (.func (.func 72) #[] #[.pointer (some ⟨w.heap.size, 0, none⟩)]) ∧ w' = w.alloc (.cells #[.slice a len cap] 22) := by
  go_enter Tryd.func66, Tryd.ntmps66
  go_wp2
  go_ret
  exact ⟨rfl, rfl⟩
/-- What slices.Backward hands back gives the events, from the last one down. -/
theorem back_stops (F : Fence) (n : Nat) (hf : F.fn 72) (hro : F.round = none) (hn : 1 ≤ n) (Bs n₀ j cap : Nat) (a : Option Addr) (ev : Nat → Ev) (hj : j ≤ 256) (w : World) (hB : Bs < w.heap.size) (hn0 : n₀ ≤ w.heap.size)
    (hBs : w.heap[Bs]? = some (.cells #[.slice a j cap] 22)) (hc : EvAt n₀ w a j cap ev) :
    SeqStopsK F n Tryd.prog 72 #[.pointer (some ⟨Bs, 0, none⟩)] (fun x : { i : Nat // i < j } => #[Value.int .i64 (x.1 : Int), .agg (ev x.1).cells.toArray]) (Keeps n₀ Bs) (fun ys => ys = dn j j) (fun _ => True) j w :=
  fun l J Jx W hW _ _ hY h0 => back1_in F n hf hro hn l Bs n₀ j cap a ev hj J Jx hY W ((hW.block Bs hB).trans hBs) (hc.below (hW.mono hn0)) h0
theorem keeps_b {n₀ Bs : Nat} {w : World} (hn : n₀ ≤ w.heap.size) (hB : Bs < w.heap.size) (W : World) (l : Nat) (o o' : Obj) (hl : w.heap.size ≤ l) (h : W.heap[l]? = some o) (h1 : o.isCells = false) (h2 : o.isWalk = false) : Keeps n₀ Bs W (W.putObj l o') :=
  ⟨belowK_b hn W l o o' hl h h1 h2, World.putObj_heap_other (by omega)⟩
end Go.Proofs.YtkadlopcomjonaaDoor.pg
