/- Whether an event may stand in a trace, by the document's own. -/
import Derived.Test.YtdfnmlcpimiboaaM9
import Derived.Test.YtdfnmlcpimiboaaM3
import Derived.Laws.OwnMore
import Derived.Laws.MakeOwn
import Derived.OwnWalk
namespace Go.Proofs.Ytdfnmlcpimiboaa.pg
open Go.ChangeShapes Go.WideShapes Go.ChangeAt Go.RowKit
set_option linter.unusedVariables false
set_option linter.unusedSimpArgs false
set_option maxRecDepth 100000
attribute [local go_sem ↓] Go.wp_at_zero Go.wp_at_succ
theorem rright_no1 (x : Ev) (w : World) (hno : x.go < 0 ∨ 6 ≤ x.go ∨ x.n < 1 ∨ 6 < x.n) : Calls Try.prog 41 #[x.val] w fun e w' => e = .returned (.bool false) ∧ Below w.heap.size w w' := by
  by_cases h0 : x.go < 0
  · clear hno
    go_enter Try.func41, Try.ntmps41
    go_wp2
    go_ret
    exact ⟨rfl, boxed _ _⟩
  · by_cases h1 : 6 ≤ x.go
    · clear hno
      go_enter Try.func41, Try.ntmps41
      go_wp2
      go_ret
      exact ⟨rfl, boxed _ _⟩
    · by_cases h2 : x.n < 1
      · clear hno
        go_enter Try.func41, Try.ntmps41
        go_wp2
        go_ret
        exact ⟨rfl, boxed _ _⟩
      · have h3 : 6 < x.n := by omega
        clear hno
        go_enter Try.func41, Try.ntmps41
        go_wp2
        go_ret
        exact ⟨rfl, boxed _ _⟩
theorem ok_more2 {l : List Acc} {k N : Nat} (h : ∀ i, i < k → i < N → okA l i) (h2 : okA l k) : ∀ i, i < k + 1 → i < N → okA l i := fun i hi hn => by
  by_cases e : i = k
  · subst e; exact h2
  · exact h i (by omega) hn
theorem own_more {l : List Acc} {k N : Nat} {O : Bool} {g : Int} {a : Acc} (hk : k < N) (ha : l[k]? = some a) (h : O = true ↔ ∃ i, i < k ∧ i < N ∧ l[i]? = some ⟨5, g, true⟩) : (O || (a.kind == 5 && a.num == g) && a.wr) = true ↔ ∃ i, i < k + 1 ∧ i < N ∧ l[i]? = some ⟨5, g, true⟩ := by
  rw [Bool.or_eq_true, h]
  constructor
  · rintro (⟨i, h1, h2, h3⟩ | q)
    · exact ⟨i, by omega, h2, h3⟩
    · simp only [Bool.and_eq_true, beq_iff_eq] at q
      refine ⟨k, by omega, hk, ?_⟩
      rw [ha]
      obtain ⟨kk, nn, ww⟩ := a
      simp at q
      simp [q]
  · rintro ⟨i, h1, h2, h3⟩
    by_cases e : i = k
    · subst e
      rw [ha] at h3
      right
      cases h3
      simp
    · exact .inl ⟨i, by omega, h2, h3⟩
theorem own_stay {l : List Acc} {k N : Nat} {O : Bool} {g : Int} (hk : ¬ k < N) (h : O = true ↔ ∃ i, i < k ∧ i < N ∧ l[i]? = some ⟨5, g, true⟩) : O = true ↔ ∃ i, i < k + 1 ∧ i < N ∧ l[i]? = some ⟨5, g, true⟩ :=
  h.trans ⟨fun ⟨i, h1, h2, h3⟩ => ⟨i, by omega, h2, h3⟩, fun ⟨i, h1, h2, h3⟩ => ⟨i, by omega, h2, h3⟩⟩
theorem zero_more {l : List Acc} {k N : Nat} (h : ∀ i, N ≤ i → i < k → l[i]? = some acc0) (h2 : l[k]? = some acc0) : ∀ i, N ≤ i → i < k + 1 → l[i]? = some acc0 := fun i hi hk => by
  by_cases e : i = k
  · subst e; exact h2
  · exact h i hi (by omega)
set_option maxHeartbeats 2000000 in
theorem rright_yes1 (x : Ev) (w : World) (h0 : 0 ≤ x.go) (h1 : x.go < 6) (h2 : 1 ≤ x.n) (h3 : x.n ≤ 6) (R : Bool) (hR : Hid (R = true ↔ rightP x)) : Calls Try.prog 41 #[x.val] w fun e w' => e = .returned (.bool R) ∧ Below w.heap.size w w' := by
  obtain ⟨N, hN⟩ : ∃ N, N = tN x.n := ⟨_, rfl⟩
  have hNI : ((N : Nat) : Int) = x.n := by rw [hN]; exact tN_eq h2 h3
  have hb := boxed w (objE x)
  have bx := boxE_new w x
  have hll : x.list.length = 6 := rfl
  have hN1 : Hid (1 ≤ N ∧ N ≤ 6) := ⟨by omega, by omega⟩
  have hofl : Hid (x.of = x.list.take N) := by show _ = _; rw [hN]; rfl
  have hRH : Hid (R = true ↔ (∀ i, i < N → okA x.list i) ∧ (∀ i, N ≤ i → i < 6 → x.list[i]? = some acc0) ∧ ∃ i, i < 6 ∧ i < N ∧ x.list[i]? = some ⟨5, x.go, true⟩) := by
    show _ ↔ _
    rw [hR.out]
    unfold rightP
    rw [← hN, hofl.out]
    constructor
    · rintro ⟨_, p, q, r⟩
      refine ⟨p, fun i h4 h5 => ?_, ?_⟩
      · obtain ⟨a, ha, _⟩ := get_lt x.list i (by omega)
        rw [ha, q a]
        rw [List.mem_iff_getElem?]
        exact ⟨i - N, by rw [List.getElem?_drop, ← ha]; congr 1; omega⟩
      · obtain ⟨i, hi⟩ := List.mem_iff_getElem?.mp r
        rw [List.getElem?_take] at hi
        split at hi
        · rename_i h5
          exact ⟨i, by have := hN1.out.2; omega, h5, hi⟩
        · cases hi
    · rintro ⟨p, q, i, h4, h5, h6⟩
      refine ⟨⟨h0, h1, h2, h3⟩, p, fun a ha => ?_, ?_⟩
      · obtain ⟨j, hj⟩ := List.mem_iff_getElem?.mp ha
        rw [List.getElem?_drop] at hj
        have hjl := (List.getElem?_eq_some_iff.mp hj).1
        rw [q (N + j) (by omega) (by omega)] at hj
        exact (Option.some.inj hj).symm
      · rw [List.mem_iff_getElem?]
        exact ⟨i, by rw [List.getElem?_take, if_pos h5]; exact h6⟩
  clear hR hofl
  have hNIH : Hid (((N : Nat) : Int) = x.n) := hNI
  clear hN hNI
  have h0' : ¬ x.go < 0 := by omega
  have h2' : ¬ x.n < 1 := by omega
  have h1' : ¬ 6 ≤ x.go := by omega
  have h3' : ¬ 6 < x.n := by omega
  go_enter Try.func41, Try.ntmps41
  go_upto_region 3 with fail
  generalize w.alloc (objE x) = W at *
  have hbH : Hid (Below w.heap.size w W) := hb
  have bxH : Hid (BoxE W w.heap.size x) := bx
  clear hb bx
  have cM : ∀ m wx, Calls Try.prog 55 #[.int .i64 m] wx _ := fun m wx => few_any m wx
  go_wp2
  go_loopw [3, 4] (fun o u wr => ∃ (k : Nat) (O : Bool), k ≤ 6 ∧ u = .int .i64 k ∧ o = .bool O ∧ Below W.heap.size W wr ∧ Hid (∀ i, i < k → i < N → okA x.list i) ∧ Hid (∀ i, N ≤ i → i < k → x.list[i]? = some acc0) ∧ Hid (O = true ↔ ∃ i, i < k ∧ i < N ∧ x.list[i]? = some ⟨5, x.go, true⟩)) (fun _ u _ => 6 - (intOf u).toNat)
  case atStart => exact ⟨0, false, Nat.zero_le _, rfl, rfl, Below.refl _ _, fun i hi => by omega, fun i _ hi => by omega, (⟨(fun q => by cases q), fun ⟨i, hi, _⟩ => by omega⟩ : _ ↔ _)⟩
  case round =>
    obtain ⟨k, O, hk, rfl, rfl, hb2, hok, hzr, hO⟩ := hrel
    by_cases hk6 : k < 6
    · obtain ⟨a, ha, ham⟩ := get_lt x.list k (by omega)
      obtain ⟨hix, k0, k1, k2⟩ := ev_ix (bxH.out.later hb2) k a ha
      have c25 : (wr.alloc (objA a)).cell? ⟨w.heap.size, 25, none⟩ = some (.int .i64 x.n) := (bxH.out.later (bthen hb2 (boxed _ _))).at 25 _ rfl
      have hax : Hid (x.list[k]? = some a) := ha
      have hkI : (k : Int) < 6 := by omega
      by_cases hlt : k < N
      · have hltI : ¬ x.n ≤ (k : Int) := by have := hNIH.out; omega
        have hgood0 : Hid (k = 0 → 0 ≤ a.num → a.num < manyP a.kind → okA x.list k) := fun e p q a' ha' => by
          rw [hax.out] at ha'
          cases ha'
          exact ⟨⟨p, q⟩, fun h => by omega⟩
        have hgood1 : Hid (∀ b, x.list[k - 1]? = some b → 0 ≤ a.num → a.num < manyP a.kind → bef b a = true → okA x.list k) := fun b hb p q r a' ha' => by
          rw [hax.out] at ha'
          cases ha'
          exact ⟨⟨p, q⟩, fun h b' hb' => by rw [hb] at hb'; cases hb'; exact r⟩
        have hbad0 : Hid (¬ (0 ≤ a.num ∧ a.num < manyP a.kind) → ¬ okA x.list k) := fun q r => q (r a hax.out).1
        have hbad1 : Hid (∀ b, x.list[k - 1]? = some b → 0 < k → bef b a = false → ¬ okA x.list k) := fun b hb p q r => by
          have := (r a hax.out).2 p b hb
          rw [q] at this
          cases this
        go_wp2_with fail
        generalize hWW : wr.alloc (objA a) = W2 at *
        have hW2 : Hid (Below W.heap.size W W2) := by rw [← hWW]; exact bthen hb2 (boxed _ _)
        have bA : BoxA W2 wr.heap.size a := by rw [← hWW]; exact boxA_new wr a
        clear hWW k0 k1 k2 c25
        have d0 := bey_cell bA.1
        have d1 := bey_cell bA.2.1
        have d2 := bey_cell bA.2.2
        have hne := bey_some W2
        by_cases hA : a.num < 0
        · have hbad : Hid (¬ okA x.list k) := hbad0.out (by omega)
          refine wp_region_cls (Bey W2) (by kernel_rfl) (by kernel_rfl) (bey_drew W2) ?_
          repeat (go_big_quiet_step ((go_at_call 55; exact calls_same (cM _ _))))
          refine wpQuiet_nil ?_
          intro _ hw'
          obtain ⟨sq, hw''⟩ := hw'
          subst hw''
          have hBq : Hid (Below W.heap.size W sq.w) := bthen hW2.out sq.h
          have y0 := cell_later sq.h bA.1
          have y1 := cell_later sq.h bA.2.1
          have y2 := cell_later sq.h bA.2.2
          have z0 := (bxH.out.later hBq.out).at 0 _ rfl
          go_wp2
          go_ret
          exact ⟨ret_b (by rw [eq_comm, Bool.eq_false_iff]; exact fun q => hbad.out ((hRH.out.mp q).1 k hlt)), bthen hbH.out hBq.out⟩
        · by_cases hB : manyP a.kind ≤ a.num
          · have hbad : Hid (¬ okA x.list k) := hbad0.out (by omega)
            refine wp_region_cls (Bey W2) (by kernel_rfl) (by kernel_rfl) (bey_drew W2) ?_
            repeat (go_big_quiet_step ((go_at_call 55; exact calls_same (cM _ _))))
            refine wpQuiet_nil ?_
            intro _ hw'
            obtain ⟨sq, hw''⟩ := hw'
            subst hw''
            have hBq : Hid (Below W.heap.size W sq.w) := bthen hW2.out sq.h
            have y0 := cell_later sq.h bA.1
            have y1 := cell_later sq.h bA.2.1
            have y2 := cell_later sq.h bA.2.2
            have z0 := (bxH.out.later hBq.out).at 0 _ rfl
            go_wp2
            go_ret
            exact ⟨ret_b (by rw [eq_comm, Bool.eq_false_iff]; exact fun q => hbad.out ((hRH.out.mp q).1 k hlt)), bthen hbH.out hBq.out⟩
          · by_cases hp : 0 < k
            · have hpI : (0 : Int) < k := by omega
              obtain ⟨b, hb', _⟩ := get_lt x.list (k - 1) (by omega)
              have hbx : Hid (x.list[k - 1]? = some b) := hb'
              by_cases e1 : a.kind < b.kind
              · have hbad : Hid (¬ okA x.list k) := hbad1.out b hbx.out hp (by simp only [bef, decide_eq_false_iff_not]; omega)
                refine wp_region_cls (Bey W2) (by kernel_rfl) (by kernel_rfl) (bey_drew W2) ?_
                repeat (go_big_quiet_step ((go_at_call 55; exact calls_same (cM _ _))))
                refine wpQuiet_nil ?_
                intro _ hw'
                obtain ⟨sq, hw''⟩ := hw'
                subst hw''
                have hBq : Hid (Below W.heap.size W sq.w) := bthen hW2.out sq.h
                have y0 := cell_later sq.h bA.1
                have y1 := cell_later sq.h bA.2.1
                have y2 := cell_later sq.h bA.2.2
                have z0 := (bxH.out.later hBq.out).at 0 _ rfl
                obtain ⟨hix2, m0, m1, m2⟩ := ev_ix (bxH.out.later hBq.out) (k - 1) b hbx.out
                rw [show ((k - 1 : Nat) : Int) = (k : Int) - 1 by omega] at hix2
                have yy0 := cell_later (boxed sq.w (objA b)) y0
                have yy1 := cell_later (boxed sq.w (objA b)) y1
                have yy2 := cell_later (boxed sq.w (objA b)) y2
                have zz0 := cell_later (boxed sq.w (objA b)) z0
                clear y0 y1 y2 z0
                go_wp2
                go_ret
                exact ⟨ret_b (by rw [eq_comm, Bool.eq_false_iff]; exact fun q => hbad.out ((hRH.out.mp q).1 k hlt)), bthen hbH.out (bthen hBq.out (boxed _ _))⟩
              · by_cases e2 : b.kind = a.kind
                · have e2b : (b.kind == a.kind) = true := by simpa using e2
                  by_cases e3 : a.num ≤ b.num
                  · have hbad : Hid (¬ okA x.list k) := hbad1.out b hbx.out hp (by simp only [bef, decide_eq_false_iff_not]; omega)
                    clear e2
                    refine wp_region_cls (Bey W2) (by kernel_rfl) (by kernel_rfl) (bey_drew W2) ?_
                    repeat (go_big_quiet_step ((go_at_call 55; exact calls_same (cM _ _))))
                    refine wpQuiet_nil ?_
                    intro _ hw'
                    obtain ⟨sq, hw''⟩ := hw'
                    subst hw''
                    have hBq : Hid (Below W.heap.size W sq.w) := bthen hW2.out sq.h
                    have y0 := cell_later sq.h bA.1
                    have y1 := cell_later sq.h bA.2.1
                    have y2 := cell_later sq.h bA.2.2
                    have z0 := (bxH.out.later hBq.out).at 0 _ rfl
                    obtain ⟨hix2, m0, m1, m2⟩ := ev_ix (bxH.out.later hBq.out) (k - 1) b hbx.out
                    rw [show ((k - 1 : Nat) : Int) = (k : Int) - 1 by omega] at hix2
                    have yy0 := cell_later (boxed sq.w (objA b)) y0
                    have yy1 := cell_later (boxed sq.w (objA b)) y1
                    have yy2 := cell_later (boxed sq.w (objA b)) y2
                    have zz0 := cell_later (boxed sq.w (objA b)) z0
                    clear y0 y1 y2 z0
                    go_wp2
                    go_ret
                    exact ⟨ret_b (by rw [eq_comm, Bool.eq_false_iff]; exact fun q => hbad.out ((hRH.out.mp q).1 k hlt)), bthen hbH.out (bthen hBq.out (boxed _ _))⟩
                  · have hgood : Hid (okA x.list k) := hgood1.out b hbx.out (by omega) (by omega) (by simp only [bef, decide_eq_true_eq]; omega)
                    clear e2
                    refine wp_region_cls (Bey W2) (by kernel_rfl) (by kernel_rfl) (bey_drew W2) ?_
                    repeat (go_big_quiet_step ((go_at_call 55; exact calls_same (cM _ _))))
                    refine wpQuiet_nil ?_
                    intro _ hw'
                    obtain ⟨sq, hw''⟩ := hw'
                    subst hw''
                    have hBq : Hid (Below W.heap.size W sq.w) := bthen hW2.out sq.h
                    have y0 := cell_later sq.h bA.1
                    have y1 := cell_later sq.h bA.2.1
                    have y2 := cell_later sq.h bA.2.2
                    have z0 := (bxH.out.later hBq.out).at 0 _ rfl
                    obtain ⟨hix2, m0, m1, m2⟩ := ev_ix (bxH.out.later hBq.out) (k - 1) b hbx.out
                    rw [show ((k - 1 : Nat) : Int) = (k : Int) - 1 by omega] at hix2
                    have yy0 := cell_later (boxed sq.w (objA b)) y0
                    have yy1 := cell_later (boxed sq.w (objA b)) y1
                    have yy2 := cell_later (boxed sq.w (objA b)) y2
                    have zz0 := cell_later (boxed sq.w (objA b)) z0
                    clear y0 y1 y2 z0
                    have hown := own_more hlt hax.out hO.out
                    have hok2 : Hid (∀ i, i < k + 1 → i < N → okA x.list i) := ok_more2 hok.out hgood.out
                    have hzr2 : Hid (∀ i, N ≤ i → i < k + 1 → x.list[i]? = some acc0) := fun i h4 h5 => hzr.out i h4 (by omega)
                    have hownH : Hid ((O || (a.kind == 5 && a.num == x.go) && a.wr) = true ↔ ∃ i, i < k + 1 ∧ i < N ∧ x.list[i]? = some ⟨5, x.go, true⟩) := hown
                    clear hown
                    cases O
                    · by_cases q1 : (a.kind == 5) = true
                      · by_cases q2 : (a.num == x.go) = true
                        · have hq : Hid (a.wr = true ↔ ∃ i, i < k + 1 ∧ i < N ∧ x.list[i]? = some ⟨5, x.go, true⟩) := by have := hownH.out; rw [q1, q2] at this; exact this
                          go_wp2
                          go_roundw
                          case rel => exact ⟨k + 1, a.wr, by omega, by go_num, rfl, (bthen hBq.out (boxed _ _)), hok2, hzr2, hq⟩
                          case measure => simp [intOf]; omega
                        · have q2 : (a.num == x.go) = false := by simpa using q2
                          have hq : Hid (false = true ↔ ∃ i, i < k + 1 ∧ i < N ∧ x.list[i]? = some ⟨5, x.go, true⟩) := by have := hownH.out; rw [q1, q2] at this; exact this
                          go_wp2
                          go_roundw
                          case rel => exact ⟨k + 1, false, by omega, by go_num, rfl, (bthen hBq.out (boxed _ _)), hok2, hzr2, hq⟩
                          case measure => simp [intOf]; omega
                      · have q1 : (a.kind == 5) = false := by simpa using q1
                        have hq : Hid (false = true ↔ ∃ i, i < k + 1 ∧ i < N ∧ x.list[i]? = some ⟨5, x.go, true⟩) := by have := hownH.out; rw [q1] at this; exact this
                        go_wp2
                        go_roundw
                        case rel => exact ⟨k + 1, false, by omega, by go_num, rfl, (bthen hBq.out (boxed _ _)), hok2, hzr2, hq⟩
                        case measure => simp [intOf]; omega
                    · have hq : Hid (true = true ↔ ∃ i, i < k + 1 ∧ i < N ∧ x.list[i]? = some ⟨5, x.go, true⟩) := by have := hownH.out; rw [Bool.true_or] at this; exact this
                      go_wp2
                      go_roundw
                      case rel => exact ⟨k + 1, true, by omega, by go_num, rfl, (bthen hBq.out (boxed _ _)), hok2, hzr2, hq⟩
                      case measure => simp [intOf]; omega
                · have e2b : (b.kind == a.kind) = false := by simpa using e2
                  have hgood : Hid (okA x.list k) := hgood1.out b hbx.out (by omega) (by omega) (by simp only [bef, decide_eq_true_eq]; omega)
                  clear e2
                  refine wp_region_cls (Bey W2) (by kernel_rfl) (by kernel_rfl) (bey_drew W2) ?_
                  repeat (go_big_quiet_step ((go_at_call 55; exact calls_same (cM _ _))))
                  refine wpQuiet_nil ?_
                  intro _ hw'
                  obtain ⟨sq, hw''⟩ := hw'
                  subst hw''
                  have hBq : Hid (Below W.heap.size W sq.w) := bthen hW2.out sq.h
                  have y0 := cell_later sq.h bA.1
                  have y1 := cell_later sq.h bA.2.1
                  have y2 := cell_later sq.h bA.2.2
                  have z0 := (bxH.out.later hBq.out).at 0 _ rfl
                  obtain ⟨hix2, m0, m1, m2⟩ := ev_ix (bxH.out.later hBq.out) (k - 1) b hbx.out
                  rw [show ((k - 1 : Nat) : Int) = (k : Int) - 1 by omega] at hix2
                  have yy0 := cell_later (boxed sq.w (objA b)) y0
                  have yy1 := cell_later (boxed sq.w (objA b)) y1
                  have yy2 := cell_later (boxed sq.w (objA b)) y2
                  have zz0 := cell_later (boxed sq.w (objA b)) z0
                  clear y0 y1 y2 z0
                  have hown := own_more hlt hax.out hO.out
                  have hok2 : Hid (∀ i, i < k + 1 → i < N → okA x.list i) := ok_more2 hok.out hgood.out
                  have hzr2 : Hid (∀ i, N ≤ i → i < k + 1 → x.list[i]? = some acc0) := fun i h4 h5 => hzr.out i h4 (by omega)
                  have hownH : Hid ((O || (a.kind == 5 && a.num == x.go) && a.wr) = true ↔ ∃ i, i < k + 1 ∧ i < N ∧ x.list[i]? = some ⟨5, x.go, true⟩) := hown
                  clear hown
                  cases O
                  · by_cases q1 : (a.kind == 5) = true
                    · by_cases q2 : (a.num == x.go) = true
                      · have hq : Hid (a.wr = true ↔ ∃ i, i < k + 1 ∧ i < N ∧ x.list[i]? = some ⟨5, x.go, true⟩) := by have := hownH.out; rw [q1, q2] at this; exact this
                        go_wp2
                        go_roundw
                        case rel => exact ⟨k + 1, a.wr, by omega, by go_num, rfl, (bthen hBq.out (boxed _ _)), hok2, hzr2, hq⟩
                        case measure => simp [intOf]; omega
                      · have q2 : (a.num == x.go) = false := by simpa using q2
                        have hq : Hid (false = true ↔ ∃ i, i < k + 1 ∧ i < N ∧ x.list[i]? = some ⟨5, x.go, true⟩) := by have := hownH.out; rw [q1, q2] at this; exact this
                        go_wp2
                        go_roundw
                        case rel => exact ⟨k + 1, false, by omega, by go_num, rfl, (bthen hBq.out (boxed _ _)), hok2, hzr2, hq⟩
                        case measure => simp [intOf]; omega
                    · have q1 : (a.kind == 5) = false := by simpa using q1
                      have hq : Hid (false = true ↔ ∃ i, i < k + 1 ∧ i < N ∧ x.list[i]? = some ⟨5, x.go, true⟩) := by have := hownH.out; rw [q1] at this; exact this
                      go_wp2
                      go_roundw
                      case rel => exact ⟨k + 1, false, by omega, by go_num, rfl, (bthen hBq.out (boxed _ _)), hok2, hzr2, hq⟩
                      case measure => simp [intOf]; omega
                  · have hq : Hid (true = true ↔ ∃ i, i < k + 1 ∧ i < N ∧ x.list[i]? = some ⟨5, x.go, true⟩) := by have := hownH.out; rw [Bool.true_or] at this; exact this
                    go_wp2
                    go_roundw
                    case rel => exact ⟨k + 1, true, by omega, by go_num, rfl, (bthen hBq.out (boxed _ _)), hok2, hzr2, hq⟩
                    case measure => simp [intOf]; omega
            · have hpI : ¬ (0 : Int) < k := by omega
              have hgood : Hid (okA x.list k) := hgood0.out (by omega) (by omega) (by omega)
              refine wp_region_cls (Bey W2) (by kernel_rfl) (by kernel_rfl) (bey_drew W2) ?_
              repeat (go_big_quiet_step ((go_at_call 55; exact calls_same (cM _ _))))
              refine wpQuiet_nil ?_
              intro _ hw'
              obtain ⟨sq, hw''⟩ := hw'
              subst hw''
              have hBq : Hid (Below W.heap.size W sq.w) := bthen hW2.out sq.h
              have y0 := cell_later sq.h bA.1
              have y1 := cell_later sq.h bA.2.1
              have y2 := cell_later sq.h bA.2.2
              have z0 := (bxH.out.later hBq.out).at 0 _ rfl
              have hown := own_more hlt hax.out hO.out
              have hok2 : Hid (∀ i, i < k + 1 → i < N → okA x.list i) := ok_more2 hok.out hgood.out
              have hzr2 : Hid (∀ i, N ≤ i → i < k + 1 → x.list[i]? = some acc0) := fun i h4 h5 => hzr.out i h4 (by omega)
              have hownH : Hid ((O || (a.kind == 5 && a.num == x.go) && a.wr) = true ↔ ∃ i, i < k + 1 ∧ i < N ∧ x.list[i]? = some ⟨5, x.go, true⟩) := hown
              clear hown
              cases O
              · by_cases q1 : (a.kind == 5) = true
                · by_cases q2 : (a.num == x.go) = true
                  · have hq : Hid (a.wr = true ↔ ∃ i, i < k + 1 ∧ i < N ∧ x.list[i]? = some ⟨5, x.go, true⟩) := by have := hownH.out; rw [q1, q2] at this; exact this
                    go_wp2
                    go_roundw
                    case rel => exact ⟨k + 1, a.wr, by omega, by go_num, rfl, hBq.out, hok2, hzr2, hq⟩
                    case measure => simp [intOf]; omega
                  · have q2 : (a.num == x.go) = false := by simpa using q2
                    have hq : Hid (false = true ↔ ∃ i, i < k + 1 ∧ i < N ∧ x.list[i]? = some ⟨5, x.go, true⟩) := by have := hownH.out; rw [q1, q2] at this; exact this
                    go_wp2
                    go_roundw
                    case rel => exact ⟨k + 1, false, by omega, by go_num, rfl, hBq.out, hok2, hzr2, hq⟩
                    case measure => simp [intOf]; omega
                · have q1 : (a.kind == 5) = false := by simpa using q1
                  have hq : Hid (false = true ↔ ∃ i, i < k + 1 ∧ i < N ∧ x.list[i]? = some ⟨5, x.go, true⟩) := by have := hownH.out; rw [q1] at this; exact this
                  go_wp2
                  go_roundw
                  case rel => exact ⟨k + 1, false, by omega, by go_num, rfl, hBq.out, hok2, hzr2, hq⟩
                  case measure => simp [intOf]; omega
              · have hq : Hid (true = true ↔ ∃ i, i < k + 1 ∧ i < N ∧ x.list[i]? = some ⟨5, x.go, true⟩) := by have := hownH.out; rw [Bool.true_or] at this; exact this
                go_wp2
                go_roundw
                case rel => exact ⟨k + 1, true, by omega, by go_num, rfl, hBq.out, hok2, hzr2, hq⟩
                case measure => simp [intOf]; omega
      · have hltI : x.n ≤ (k : Int) := by have := hNIH.out; omega
        have heq := fun wx => run_neA a acc0 wx
        by_cases e : a = acc0
        · rw [(eqA_iff a acc0).mpr e] at heq
          have hz2 : Hid (∀ i, N ≤ i → i < k + 1 → x.list[i]? = some acc0) := zero_more hzr.out (by rw [hax.out, e])
          have hok2 : Hid (∀ i, i < k + 1 → i < N → okA x.list i) := fun i h4 h5 => hok.out i (by omega) h5
          clear e
          go_wp2
          go_roundw
          case rel => exact ⟨k + 1, O, by omega, by go_num, rfl, bthen hb2 (boxed _ _), hok2, hz2, own_stay hlt hO.out⟩
          case measure => simp [intOf]; omega
        · rw [Bool.eq_false_iff.mpr fun q => e ((eqA_iff a acc0).mp q)] at heq
          have hbad : Hid (¬ ∀ i, N ≤ i → i < 6 → x.list[i]? = some acc0) := fun q => e (by
            have := q k (by omega) hk6
            rw [hax.out] at this
            exact Option.some.inj this)
          clear e
          go_wp2
          go_ret
          exact ⟨ret_b (by rw [eq_comm, Bool.eq_false_iff]; exact fun q => hbad.out (hRH.out.mp q).2.1), bthen hbH.out (bthen hb2 (boxed _ _))⟩
    · have hk2 : k = 6 := by omega
      subst hk2
      go_wp2
      go_ret
      exact ⟨ret_b (by rw [Bool.eq_iff_iff, hRH.out, hO.out]; exact ⟨fun q => ⟨fun i hi => hok.out i (by have := hN1.out.2; omega) hi, hzr.out, q⟩, fun q => q.2.2⟩), bthen hbH.out hb2⟩
theorem rright_any (x : Ev) (w : World) (R : Bool) (hR : Hid (R = true ↔ rightP x)) : Calls Try.prog 41 #[x.val] w fun e w' => e = .returned (.bool R) ∧ Below w.heap.size w w' := by
  by_cases h : 0 ≤ x.go ∧ x.go < 6 ∧ 1 ≤ x.n ∧ x.n ≤ 6
  · exact rright_yes1 x w h.1 h.2.1 h.2.2.1 h.2.2.2 R hR
  · have : R = false := by
      rw [Bool.eq_false_iff]
      exact fun q => h (hR.out.mp q).1
    rw [this]
    exact rright_no1 x w (by omega)
end Go.Proofs.Ytdfnmlcpimiboaa.pg
/- A new list of a given length, its elements of one cell each. -/
namespace Go.Proofs.Ytdfnmlcpimiboaa.pg
open Go.ChangeShapes Go.WideShapes Go.ChangeAt Go.RowKit
set_option linter.unusedVariables false
theorem wpList_mk {P : Program} (w : World) {ops : Array Oper} {rest : List Oper} {o : Oper} {a : Act} {Q : Exit → Act → World → Prop}
    (hg : o.guard = none) (l c : Operand) (t : TypeId) (hop : o.op = Op.makeSlice t l c)
    (e : TypeId) (i : TypeInfo) (z : Value) (h1 : P.underlying t = some (.slice e)) (h2 : P.info? e = some i) (h3 : i.zero = some z) (hz : z.cells = #[z]) (h4 : i.size = 1)
    (n : Nat) (hl : a.eval l = .int .i64 (n : Int)) (hc : a.eval c = .int .i64 (n : Int)) (b2 : i.bytes * n ≤ 281474976710656) (b3 : n ≤ 9223372036854775807)
    (hK : ∀ w', w'.heap[w.heap.size]? = some (.cells (List.replicate n z).toArray e (0, 0)) → Below w.heap.size w w' → w'.heap.size = w.heap.size + 1 → wpList P ops Q rest (a.put o.dst (.slice (some ⟨w.heap.size, 0, none⟩) n n)) w') :
    wpList P ops Q (o :: rest) a w := by
  refine wpList_plain hg fun K hK' => ?_
  have b2' : (i.bytes : Int) * (n : Int) ≤ 281474976710656 := by
    have h : ((i.bytes * n : Nat) : Int) ≤ 281474976710656 := by omega
    rwa [Int.natCast_mul] at h
  have hrun := run_make (P := P) w t e i z h1 h2 h3 .i64 .i64 (n : Int) (n : Int) (by omega) (by omega) b2' (by omega)
  rw [hz, h4, Nat.mul_one, Int.toNat_natCast] at hrun
  unfold Oper.wp
  simp [execOp, hop, hl, hc, hrun, Result.andThen]
  refine hK' _ _ (hK _ ?_ ((Below.refl _ w).alloc (Nat.le_refl _) _) (by simp))
  rw [heap_new_q]
  congr 2
  apply Array.ext'
  rw [toList_madeCells_one]
end Go.Proofs.Ytdfnmlcpimiboaa.pg
/- Whether events are a trace, by the document's own; the events that touch an object. -/
namespace Go.Proofs.Ytdfnmlcpimiboaa.pg
open Go.ChangeShapes Go.WideShapes Go.ChangeAt Go.RowKit
set_option linter.unusedVariables false
set_option linter.unusedSimpArgs false
set_option maxRecDepth 100000
attribute [local go_sem ↓] Go.wp_at_zero Go.wp_at_succ
set_option maxHeartbeats 1000000 in
theorem rcheck_any (l : List Ev) (la : Option Addr) (lc : Nat) (w : World) (hl : Rows w 26 la lc (l.map Ev.cells)) (c : Int) (hc : Hid (checkP l c)) : Calls Try.prog 21 #[.slice la l.length lc] w fun e w' => e = .returned (.int .i64 c) ∧ Below w.heap.size w w' := by
  have hlI := rows_len hl
  have hlH : Hid (Rows w 26 la lc (l.map Ev.cells)) := hl
  clear hl
  by_cases hlong : 256 < l.length
  · have hcc : c = 2 := by rcases hc.out with ⟨_, q⟩ | ⟨q, _⟩ | ⟨q, _⟩ <;> omega
    have hI : (256 : Int) < l.length := by omega
    subst hcc
    go_enter Try.func21, Try.ntmps21
    go_wp2
    go_ret
    exact ⟨rfl, Below.refl _ _⟩
  · have hI : ¬ (256 : Int) < l.length := by omega
    have huH : Hid (Try.prog.underlying 55 = _) := Try.underlying55
    have hiH : Hid ((Try.prog.info? 55).map (·.size) = some 26) := infoE26
    go_enter Try.func21, Try.ntmps21
    go_wp2
    go_loopw [3] (fun u wr => ∃ k : Nat, k ≤ l.length ∧ u = .int .i64 k ∧ Below w.heap.size w wr ∧ Hid (∀ x ∈ l.take k, rightP x)) (fun u _ => l.length - (intOf u).toNat)
    case atStart => exact ⟨0, Nat.zero_le _, rfl, Below.refl _ _, fun x hx => by simp at hx⟩
    case round =>
      obtain ⟨k, hk, rfl, hb2, hok⟩ := hrel
      by_cases hlt : k < l.length
      · obtain ⟨x, hx, hxm⟩ := get_lt l k hlt
        obtain ⟨b0, o0, hix, hbl, hrg⟩ := ev_row (hlH.out.later hb2) k x hx
        have hrH : Hid (wr.rangeAt b0 o0 x.cells) := hrg
        have hkI : (k : Int) < l.length := by omega
        clear hrg
        by_cases e : rightP x
        · have c1 : ∀ wx, Calls Try.prog 41 #[.agg x.cells.toArray] wx _ := fun wx => rright_any x wx true ⟨fun _ => e, fun _ => rfl⟩
          have hok2 : Hid (∀ x ∈ l.take (k + 1), rightP x) := fun z hz => by
            rw [take_one l k x hx, List.mem_append, List.mem_singleton] at hz
            rcases hz with hz | rfl
            · exact hok.out z hz
            · exact e
          clear e
          go_wp2_with (first
            | (refine wpList_load_mid rfl 55 _ rfl b0 o0 rfl x.cells _ hrH.out huH.out rfl hiH.out ?_)
            | (go_at_call 41; (with_reducible refine (c1 _).mono ?_); rintro e w1 ⟨rfl, hb1⟩))
          go_roundw
          case rel => exact ⟨k + 1, by omega, by go_num, bthen hb2 hb1, hok2⟩
          case measure => simp [intOf]; omega
        · have c1 : ∀ wx, Calls Try.prog 41 #[.agg x.cells.toArray] wx _ := fun wx => rright_any x wx false ⟨(fun q => by cases q), fun q => absurd q e⟩
          have hcc : Hid (c = 7) := by
            rcases hc.out with ⟨q, _⟩ | ⟨_, _, q⟩ | ⟨_, q, _⟩
            · omega
            · exact q
            · exact absurd (q x hxm) e
          clear e
          go_wp2_with (first
            | (refine wpList_load_mid rfl 55 _ rfl b0 o0 rfl x.cells _ hrH.out huH.out rfl hiH.out ?_)
            | (go_at_call 41; (with_reducible refine (c1 _).mono ?_); rintro e w1 ⟨rfl, hb1⟩))
          go_ret
          exact ⟨by rw [hcc.out]; rfl, bthen hb2 hb1⟩
      · have hk2 : k = l.length := by omega
        subst hk2
        rw [List.take_length] at hok
        have hcc : Hid (c = 0) := by
          rcases hc.out with ⟨q, _⟩ | ⟨_, ⟨x, hx, q⟩, _⟩ | ⟨_, _, q⟩
          · omega
          · exact absurd (hok.out x hx) q
          · exact q
        go_wp2
        go_ret
        exact ⟨by rw [hcc.out]; rfl, hb2⟩
/-- Whether an event touches an object. -/
def tch (x : Ev) (k n : Int) : Bool := x.of.any fun a => a.kind == k && a.num == n
/-- The places of the first j events that touch an object. -/
def usersTo (l : List Ev) (k n : Int) : Nat → List Int
  | 0 => []
  | j + 1 => usersTo l k n j ++ (match l[j]? with | some x => if tch x k n then [(j : Int)] else [] | none => [])
theorem users_len (l : List Ev) (k n : Int) (j : Nat) : (usersTo l k n j).length ≤ j := by
  induction j with
  | zero => exact Nat.le_refl _
  | succ j ih =>
    unfold usersTo
    rw [List.length_append]
    have : (match l[j]? with | some x => if tch x k n then [(j : Int)] else [] | none => []).length ≤ 1 := by
      split
      · split <;> simp
      · simp
    omega
theorem users_yes {l : List Ev} {k n : Int} {j : Nat} {x : Ev} (hx : l[j]? = some x) (h : tch x k n = true) : usersTo l k n (j + 1) = usersTo l k n j ++ [(j : Int)] := by
  conv => lhs; unfold usersTo
  rw [hx]; simp [h]
theorem users_no {l : List Ev} {k n : Int} {j : Nat} {x : Ev} (hx : l[j]? = some x) (h : tch x k n = false) : usersTo l k n (j + 1) = usersTo l k n j := by
  conv => lhs; unfold usersTo
  rw [hx]; simp [h]
theorem infoN_u : (Try.prog.info? 3).map (fun i => (i.zero, i.size, i.bytes)) = some (some (.int .i64 0), 1, 8) := by kernel_rfl
theorem one1u (x : Int) : ∀ u ∈ chCells x, u.oneCell' = true := by intro u hu; simp [chCells] at hu; subst hu; rfl
theorem len1u (l : List Int) : ∀ row ∈ l.map chCells, row.length = 1 := by intro r hr; simp only [List.mem_map] at hr; obtain ⟨x, _, rfl⟩ := hr; rfl
/-- How far Users has come. -/
structure USt (w : World) (l : List Ev) (kd nm : Int) (j : Nat) (va : Option Addr) (vc : Nat) (wr : World) : Prop where
  be : Below w.heap.size w wr
  ow : OwnL wr w.heap.size 3 1 va vc ((usersTo l kd nm j).map chCells)
theorem USt.later {w : World} {l : List Ev} {kd nm : Int} {j : Nat} {va : Option Addr} {vc : Nat} {wr w' : World} (h : USt w l kd nm j va vc wr) (hb : Below wr.heap.size wr w') : USt w l kd nm j va vc w' :=
  ⟨bthen h.be hb, own_keep h.ow fun b hb' => hb.block b (blk_lt h.ow b hb').2⟩
/-- One goes ahead of another one by the order of accesses, and so on. -/
theorem bef_trans {a b c : Acc} (h1 : bef a b = true) (h2 : bef b c = true) : bef a c = true := by
  simp only [bef, decide_eq_true_eq] at *
  omega
theorem bef_far {l : List Acc} {N : Nat} (h : ∀ i, i < N → okA l i) (hl : N ≤ l.length) : ∀ (d i : Nat) (a b : Acc), i + d + 1 < N → l[i]? = some a → l[i + d + 1]? = some b → bef a b = true
  | 0, i, a, b, hi, ha, hb => (h (i + 0 + 1) hi b hb).2 (by omega) a (by simpa using ha)
  | d + 1, i, a, b, hi, ha, hb => by
    obtain ⟨c, hc, _⟩ := get_lt l (i + d + 1) (by omega)
    have h1 := bef_far h hl d i a c (by omega) ha hc
    have h2 := (h (i + (d + 1) + 1) hi b hb).2 (by omega) c (by rw [show i + (d + 1) + 1 - 1 = i + d + 1 by omega]; exact hc)
    exact bef_trans h1 h2
theorem right_uniq {x : Ev} (hx : rightP x) {i j : Nat} {a b : Acc} (hij : i < j) (ha : x.of[i]? = some a) (hb : x.of[j]? = some b) (h1 : a.kind = b.kind) (h2 : a.num = b.num) : False := by
  have hj := (List.getElem?_eq_some_iff.mp hb).1
  rw [Ev.of_len] at hj
  have h6 := tN_le x.n
  rw [of_at (by omega)] at ha
  rw [of_at hj] at hb
  have := bef_far hx.2.1 (show tN x.n ≤ x.list.length from h6) (j - i - 1) i a b (by omega) ha (by rw [show i + (j - i - 1) + 1 = j by omega]; exact hb)
  simp only [bef, decide_eq_true_eq] at this
  omega
/-- How far the document's own has come within an event. -/
structure RUSt (w wr : World) (x : Ev) (ta : Option Addr) (tc : Nat) (l : List Ev) (kd nm : Int) (j m : Nat) (F : Bool) (va : Option Addr) (vc : Nat) (wq : World) : Prop where
  be : Below w.heap.size w wq
  ow : OwnL wq w.heap.size 3 1 va vc ((usersTo l kd nm j ++ if F then [(j : Int)] else []).map chCells)
  ot : OwnL wq wr.heap.size 52 3 ta tc (x.of.map Acc.cells)
  lt : F = false → ∀ b ∈ blk va, b < wr.heap.size
  fd : F = true ↔ ∃ a ∈ x.of.take m, (a.kind == kd && a.num == nm) = true
end Go.Proofs.Ytdfnmlcpimiboaa.pg
