/- The document's own words on a right history. -/
import Derived.Test.YtklpifammbnldaaM24
namespace Go.Proofs.Ytklpifammbnldaa.pg
open Go.ChangeShapes Go.WideShapes Go.ChangeAt Go.RowKit
set_option linter.unusedVariables false
set_option linter.unusedSimpArgs false
set_option maxRecDepth 100000
attribute [local go_sem ↓] Go.wp_at_zero Go.wp_at_succ
theorem rdoes_any (k d : Int) (w : World) : Calls Try.prog 40 #[.int .i64 k, .int .i64 d] w fun e w' => e = .returned (.bool (doesB k d)) ∧ w' = w := by
  obtain ⟨b1, h1⟩ : ∃ b, (k == 1) = b := ⟨_, rfl⟩
  obtain ⟨b2, h2⟩ : ∃ b, (k == 2) = b := ⟨_, rfl⟩
  obtain ⟨b3, h3⟩ : ∃ b, (k == 3) = b := ⟨_, rfl⟩
  obtain ⟨b4, h4⟩ : ∃ b, (k == 4) = b := ⟨_, rfl⟩
  obtain ⟨c1, g1⟩ : ∃ b, (d == 1) = b := ⟨_, rfl⟩
  obtain ⟨c2, g2⟩ : ∃ b, (d == 2) = b := ⟨_, rfl⟩
  obtain ⟨c3, g3⟩ : ∃ b, (d == 3) = b := ⟨_, rfl⟩
  obtain ⟨c4, g4⟩ : ∃ b, (d == 4) = b := ⟨_, rfl⟩
  obtain ⟨c5, g5⟩ : ∃ b, (d == 5) = b := ⟨_, rfl⟩
  have hx : Hid ((b1 = true → b2 = false ∧ b3 = false ∧ b4 = false) ∧ (b2 = true → b3 = false ∧ b4 = false) ∧ (b3 = true → b4 = false)) := by
    refine ⟨fun q => ?_, fun q => ?_, fun q => ?_⟩
    · rw [q] at h1; have : k = 1 := by simpa using h1
      subst this; exact ⟨h2.symm, h3.symm, h4.symm⟩
    · rw [q] at h2; have : k = 2 := by simpa using h2
      subst this; exact ⟨h3.symm, h4.symm⟩
    · rw [q] at h3; have : k = 3 := by simpa using h3
      subst this; exact h4.symm
  have hR : Hid (doesB k d = ((b1 && (c1 || c2)) || (b2 && (c1 || c3)) || ((b3 || b4) && (c4 || c5)))) := by
    show _ = _
    unfold doesB
    rw [h1, h2, h3, h4, g1, g2, g3, g4, g5]
  cases b1 with
  | true =>
    obtain ⟨rfl, rfl, rfl⟩ := hx.out.1 rfl
    cases c1 with
    | true => (go_enter Try.func40, Try.ntmps40; go_wp2; go_ret; exact ⟨by rw [hR.out]; (try simp), rfl⟩)
    | false => cases c2 <;> (go_enter Try.func40, Try.ntmps40; go_wp2; go_ret; exact ⟨by rw [hR.out]; (try simp), rfl⟩)
  | false =>
    cases b2 with
    | true =>
      obtain ⟨rfl, rfl⟩ := hx.out.2.1 rfl
      cases c1 with
      | true => (go_enter Try.func40, Try.ntmps40; go_wp2; go_ret; exact ⟨by rw [hR.out]; (try simp), rfl⟩)
      | false => cases c3 <;> (go_enter Try.func40, Try.ntmps40; go_wp2; go_ret; exact ⟨by rw [hR.out]; (try simp), rfl⟩)
    | false =>
      cases b3 with
      | true =>
        obtain rfl := hx.out.2.2 rfl
        cases c4 with
        | true => (go_enter Try.func40, Try.ntmps40; go_wp2; go_ret; exact ⟨by rw [hR.out]; (try simp), rfl⟩)
        | false => cases c5 <;> (go_enter Try.func40, Try.ntmps40; go_wp2; go_ret; exact ⟨by rw [hR.out]; (try simp), rfl⟩)
      | false =>
        cases b4 with
        | true =>
          cases c4 with
          | true => (go_enter Try.func40, Try.ntmps40; go_wp2; go_ret; exact ⟨by rw [hR.out]; (try simp), rfl⟩)
          | false => cases c5 <;> (go_enter Try.func40, Try.ntmps40; go_wp2; go_ret; exact ⟨by rw [hR.out]; (try simp), rfl⟩)
        | false => (go_enter Try.func40, Try.ntmps40; go_wp2; go_ret; exact ⟨by rw [hR.out]; (try simp), rfl⟩)
theorem rahead_any (x y : Cl) (w : World) : Calls Try.prog 27 #[x.val, y.val] w fun e w' => e = .returned (.bool (endB x y)) ∧ Below w.heap.size w w' := by
  have hX : Hid (Below w.heap.size w ((w.alloc (oCl x)).alloc (oCl y))) := bthen (boxed _ _) (boxed _ _)
  obtain ⟨b1, h1⟩ : ∃ b, (x.en != -1) = b := ⟨_, rfl⟩
  obtain ⟨b2, h2⟩ : ∃ b, decide (x.en < y.bg) = b := ⟨_, rfl⟩
  have hR : Hid (endB x y = (b1 && b2)) := by
    show _ = _
    unfold endB Cl.pend
    rw [← h1, ← h2]
    rfl
  cases b1 with
  | true =>
    go_enter Try.func27, Try.ntmps27
    go_wp2
    go_ret
    exact ⟨by rw [hR.out]; first | rfl | simp, hX.out⟩
  | false =>
    go_enter Try.func27, Try.ntmps27
    go_wp2
    go_ret
    exact ⟨by rw [hR.out]; first | rfl | simp, hX.out⟩
/-- Are an operation's fields as they must be? -/
def fieldB (k : Int) (x : Cl) : Bool := doesB k x.d && rcB x
end Go.Proofs.Ytklpifammbnldaa.pg
/- The document's own words on an operation of number 1. -/
namespace Go.Proofs.Ytklpifammbnldaa.pg
open Go.ChangeShapes Go.WideShapes Go.ChangeAt Go.RowKit
set_option linter.unusedVariables false
set_option linter.unusedSimpArgs false
set_option maxRecDepth 100000
attribute [local go_sem ↓] Go.wp_at_zero Go.wp_at_succ
set_option maxHeartbeats 4000000 in
theorem fields_1 (k go inn out : Int) (em : Bool) (bg en : Int) (hd : doesB k 1 = true) (w : World) : Calls Try.prog 26 #[.int .i64 k, (Cl.mk go 1 inn out em bg en).val] w fun e w' => e = .returned (.bool (fieldB k ⟨go, 1, inn, out, em, bg, en⟩)) ∧ Below w.heap.size w w' := by
  have cD : ∀ wx, Calls Try.prog 40 #[.int .i64 k, .int .i64 1] wx fun e w' => e = .returned (.bool true) ∧ w' = wx := fun wx => by
    have := rdoes_any k 1 wx
    rwa [hd] at this
  have hX : Hid (Below w.heap.size w (w.alloc (oCl ⟨go, 1, inn, out, em, bg, en⟩))) := boxed _ _
  obtain ⟨b1, h1⟩ : ∃ b, decide (go < 0) = b := ⟨_, rfl⟩
  obtain ⟨b2, h2⟩ : ∃ b, decide (6 ≤ go) = b := ⟨_, rfl⟩
  obtain ⟨b3, h3⟩ : ∃ b, decide (bg < 0) = b := ⟨_, rfl⟩
  obtain ⟨b4, h4⟩ : ∃ b, decide (1000000 < bg) = b := ⟨_, rfl⟩
  obtain ⟨b5, h5⟩ : ∃ b, (en != -1) = b := ⟨_, rfl⟩
  obtain ⟨b6, h6⟩ : ∃ b, decide (en ≤ bg) = b := ⟨_, rfl⟩
  obtain ⟨b7, h7⟩ : ∃ b, decide (1000000 < en) = b := ⟨_, rfl⟩
  obtain ⟨b8, h8⟩ : ∃ b, (inn != 0) = b := ⟨_, rfl⟩
  obtain ⟨b9, h9⟩ : ∃ b, (out != 0) = b := ⟨_, rfl⟩
  have hR : Hid (fieldB k ⟨go, 1, inn, out, em, bg, en⟩ = (!b1 && !b2 && !b3 && !b4 && (!b5 || (!b6 && !b7)) && (!b8 || false) && (!em || (false && b5)) && (!b9 || ((true) && !em && b5)))) := by
    show _ = _
    unfold fieldB rcB rtB rvB Cl.pend takesB tellsB
    dsimp only
    rw [hd, ← h1, ← h2, ← h3, ← h4, ← h5, ← h6, ← h7, ← h8, ← h9]
    clear h1 h2 h3 h4 h5 h6 h7 h8 h9 cD hX
    have e1 : decide (0 ≤ go) = !decide (go < 0) := by rw [← decide_not]; exact decide_eq_decide.mpr (by omega)
    have e2 : decide (go < 6) = !decide (6 ≤ go) := by rw [← decide_not]; exact decide_eq_decide.mpr (by omega)
    have e3 : decide (0 ≤ bg) = !decide (bg < 0) := by rw [← decide_not]; exact decide_eq_decide.mpr (by omega)
    have e4 : decide (bg ≤ 1000000) = !decide (1000000 < bg) := by rw [← decide_not]; exact decide_eq_decide.mpr (by omega)
    have e5 : (en == -1) = !(en != -1) := by rw [bne, Bool.not_not]
    have e6 : decide (bg < en) = !decide (en ≤ bg) := by rw [← decide_not]; exact decide_eq_decide.mpr (by omega)
    have e7 : decide (en ≤ 1000000) = !decide (1000000 < en) := by rw [← decide_not]; exact decide_eq_decide.mpr (by omega)
    have e8 : (inn == 0) = !(inn != 0) := by rw [bne, Bool.not_not]
    have e9 : (out == 0) = !(out != 0) := by rw [bne, Bool.not_not]
    rw [e1, e2, e3, e4, e5, e6, e7, e8, e9]
    clear e1 e2 e3 e4 e5 e6 e7 e8 e9
    generalize (en != -1) = b5
    generalize (inn != 0) = b8
    generalize (out != 0) = b9
    cases b5 <;> cases em <;> cases b8 <;> cases b9 <;> simp [Bool.and_assoc]
  clear hd
  cases b1 with
  | true =>
    clear h2 h3 h4 h5 h6 h7 h8 h9
    go_enter Try.func26, Try.ntmps26
    go_wp2_with (go_at_call 40; (with_reducible refine (cD _).mono ?_); rintro e w1 ⟨rfl, hw1⟩; rw [hw1])
    go_ret
    exact ⟨by rw [hR.out]; (try simp), hX.out⟩
  | false =>
    cases b2 with
    | true =>
      clear h3 h4 h5 h6 h7 h8 h9
      go_enter Try.func26, Try.ntmps26
      go_wp2_with (go_at_call 40; (with_reducible refine (cD _).mono ?_); rintro e w1 ⟨rfl, hw1⟩; rw [hw1])
      go_ret
      exact ⟨by rw [hR.out]; (try simp), hX.out⟩
    | false =>
      cases b3 with
      | true =>
        clear h4 h5 h6 h7 h8 h9
        go_enter Try.func26, Try.ntmps26
        go_wp2_with (go_at_call 40; (with_reducible refine (cD _).mono ?_); rintro e w1 ⟨rfl, hw1⟩; rw [hw1])
        go_ret
        exact ⟨by rw [hR.out]; (try simp), hX.out⟩
      | false =>
        cases b4 with
        | true =>
          clear h5 h6 h7 h8 h9
          go_enter Try.func26, Try.ntmps26
          go_wp2_with (go_at_call 40; (with_reducible refine (cD _).mono ?_); rintro e w1 ⟨rfl, hw1⟩; rw [hw1])
          go_ret
          exact ⟨by rw [hR.out]; (try simp), hX.out⟩
        | false =>
          cases b5 with
          | true =>
            cases b6 with
            | true =>
              clear h7 h8 h9
              go_enter Try.func26, Try.ntmps26
              go_wp2_with (go_at_call 40; (with_reducible refine (cD _).mono ?_); rintro e w1 ⟨rfl, hw1⟩; rw [hw1])
              go_ret
              exact ⟨by rw [hR.out]; (try simp), hX.out⟩
            | false =>
              cases b7 with
              | true =>
                clear h8 h9
                go_enter Try.func26, Try.ntmps26
                go_wp2_with (go_at_call 40; (with_reducible refine (cD _).mono ?_); rintro e w1 ⟨rfl, hw1⟩; rw [hw1])
                go_ret
                exact ⟨by rw [hR.out]; (try simp), hX.out⟩
              | false =>
                cases b8 with
                | true =>
                  clear h9
                  go_enter Try.func26, Try.ntmps26
                  go_wp2_with (go_at_call 40; (with_reducible refine (cD _).mono ?_); rintro e w1 ⟨rfl, hw1⟩; rw [hw1])
                  go_ret
                  exact ⟨by rw [hR.out]; (try simp), hX.out⟩
                | false =>
                  cases b9 with
                  | true =>
                    cases em with
                    | true =>
                      go_enter Try.func26, Try.ntmps26
                      go_wp2_with (go_at_call 40; (with_reducible refine (cD _).mono ?_); rintro e w1 ⟨rfl, hw1⟩; rw [hw1])
                      go_ret
                      exact ⟨by rw [hR.out]; (try simp), hX.out⟩
                    | false =>
                      go_enter Try.func26, Try.ntmps26
                      go_wp2_with (go_at_call 40; (with_reducible refine (cD _).mono ?_); rintro e w1 ⟨rfl, hw1⟩; rw [hw1])
                      go_ret
                      exact ⟨by rw [hR.out]; (try simp), hX.out⟩
                  | false =>
                    cases em with
                    | true =>
                      go_enter Try.func26, Try.ntmps26
                      go_wp2_with (go_at_call 40; (with_reducible refine (cD _).mono ?_); rintro e w1 ⟨rfl, hw1⟩; rw [hw1])
                      go_ret
                      exact ⟨by rw [hR.out]; (try simp), hX.out⟩
                    | false =>
                      go_enter Try.func26, Try.ntmps26
                      go_wp2_with (go_at_call 40; (with_reducible refine (cD _).mono ?_); rintro e w1 ⟨rfl, hw1⟩; rw [hw1])
                      go_ret
                      exact ⟨by rw [hR.out]; (try simp), hX.out⟩
          | false =>
            cases b8 with
            | true =>
              clear h6 h7 h9
              go_enter Try.func26, Try.ntmps26
              go_wp2_with (go_at_call 40; (with_reducible refine (cD _).mono ?_); rintro e w1 ⟨rfl, hw1⟩; rw [hw1])
              go_ret
              exact ⟨by rw [hR.out]; (try simp), hX.out⟩
            | false =>
              cases b9 with
              | true =>
                cases em with
                | true =>
                  clear h6 h7
                  go_enter Try.func26, Try.ntmps26
                  go_wp2_with (go_at_call 40; (with_reducible refine (cD _).mono ?_); rintro e w1 ⟨rfl, hw1⟩; rw [hw1])
                  go_ret
                  exact ⟨by rw [hR.out]; (try simp), hX.out⟩
                | false =>
                  clear h6 h7
                  go_enter Try.func26, Try.ntmps26
                  go_wp2_with (go_at_call 40; (with_reducible refine (cD _).mono ?_); rintro e w1 ⟨rfl, hw1⟩; rw [hw1])
                  go_ret
                  exact ⟨by rw [hR.out]; (try simp), hX.out⟩
              | false =>
                cases em with
                | true =>
                  clear h6 h7
                  go_enter Try.func26, Try.ntmps26
                  go_wp2_with (go_at_call 40; (with_reducible refine (cD _).mono ?_); rintro e w1 ⟨rfl, hw1⟩; rw [hw1])
                  go_ret
                  exact ⟨by rw [hR.out]; (try simp), hX.out⟩
                | false =>
                  clear h6 h7
                  go_enter Try.func26, Try.ntmps26
                  go_wp2_with (go_at_call 40; (with_reducible refine (cD _).mono ?_); rintro e w1 ⟨rfl, hw1⟩; rw [hw1])
                  go_ret
                  exact ⟨by rw [hR.out]; (try simp), hX.out⟩
end Go.Proofs.Ytklpifammbnldaa.pg
/- The document's own words on an operation of number 2. -/
namespace Go.Proofs.Ytklpifammbnldaa.pg
open Go.ChangeShapes Go.WideShapes Go.ChangeAt Go.RowKit
set_option linter.unusedVariables false
set_option linter.unusedSimpArgs false
set_option maxRecDepth 100000
attribute [local go_sem ↓] Go.wp_at_zero Go.wp_at_succ
set_option maxHeartbeats 4000000 in
theorem fields_2 (k go inn out : Int) (em : Bool) (bg en : Int) (hd : doesB k 2 = true) (w : World) : Calls Try.prog 26 #[.int .i64 k, (Cl.mk go 2 inn out em bg en).val] w fun e w' => e = .returned (.bool (fieldB k ⟨go, 2, inn, out, em, bg, en⟩)) ∧ Below w.heap.size w w' := by
  have cD : ∀ wx, Calls Try.prog 40 #[.int .i64 k, .int .i64 2] wx fun e w' => e = .returned (.bool true) ∧ w' = wx := fun wx => by
    have := rdoes_any k 2 wx
    rwa [hd] at this
  have hX : Hid (Below w.heap.size w (w.alloc (oCl ⟨go, 2, inn, out, em, bg, en⟩))) := boxed _ _
  obtain ⟨b1, h1⟩ : ∃ b, decide (go < 0) = b := ⟨_, rfl⟩
  obtain ⟨b2, h2⟩ : ∃ b, decide (6 ≤ go) = b := ⟨_, rfl⟩
  obtain ⟨b3, h3⟩ : ∃ b, decide (bg < 0) = b := ⟨_, rfl⟩
  obtain ⟨b4, h4⟩ : ∃ b, decide (1000000 < bg) = b := ⟨_, rfl⟩
  obtain ⟨b5, h5⟩ : ∃ b, (en != -1) = b := ⟨_, rfl⟩
  obtain ⟨b6, h6⟩ : ∃ b, decide (en ≤ bg) = b := ⟨_, rfl⟩
  obtain ⟨b7, h7⟩ : ∃ b, decide (1000000 < en) = b := ⟨_, rfl⟩
  obtain ⟨b8, h8⟩ : ∃ b, (inn != 0) = b := ⟨_, rfl⟩
  obtain ⟨b9, h9⟩ : ∃ b, (out != 0) = b := ⟨_, rfl⟩
  have hR : Hid (fieldB k ⟨go, 2, inn, out, em, bg, en⟩ = (!b1 && !b2 && !b3 && !b4 && (!b5 || (!b6 && !b7)) && (!b8 || true) && (!em || (false && b5)) && (!b9 || ((false) && !em && b5)))) := by
    show _ = _
    unfold fieldB rcB rtB rvB Cl.pend takesB tellsB
    dsimp only
    rw [hd, ← h1, ← h2, ← h3, ← h4, ← h5, ← h6, ← h7, ← h8, ← h9]
    clear h1 h2 h3 h4 h5 h6 h7 h8 h9 cD hX
    have e1 : decide (0 ≤ go) = !decide (go < 0) := by rw [← decide_not]; exact decide_eq_decide.mpr (by omega)
    have e2 : decide (go < 6) = !decide (6 ≤ go) := by rw [← decide_not]; exact decide_eq_decide.mpr (by omega)
    have e3 : decide (0 ≤ bg) = !decide (bg < 0) := by rw [← decide_not]; exact decide_eq_decide.mpr (by omega)
    have e4 : decide (bg ≤ 1000000) = !decide (1000000 < bg) := by rw [← decide_not]; exact decide_eq_decide.mpr (by omega)
    have e5 : (en == -1) = !(en != -1) := by rw [bne, Bool.not_not]
    have e6 : decide (bg < en) = !decide (en ≤ bg) := by rw [← decide_not]; exact decide_eq_decide.mpr (by omega)
    have e7 : decide (en ≤ 1000000) = !decide (1000000 < en) := by rw [← decide_not]; exact decide_eq_decide.mpr (by omega)
    have e8 : (inn == 0) = !(inn != 0) := by rw [bne, Bool.not_not]
    have e9 : (out == 0) = !(out != 0) := by rw [bne, Bool.not_not]
    rw [e1, e2, e3, e4, e5, e6, e7, e8, e9]
    clear e1 e2 e3 e4 e5 e6 e7 e8 e9
    generalize (en != -1) = b5
    generalize (inn != 0) = b8
    generalize (out != 0) = b9
    cases b5 <;> cases em <;> cases b8 <;> cases b9 <;> simp [Bool.and_assoc]
  clear hd
  cases b1 with
  | true =>
    clear h2 h3 h4 h5 h6 h7 h8 h9
    go_enter Try.func26, Try.ntmps26
    go_wp2_with (go_at_call 40; (with_reducible refine (cD _).mono ?_); rintro e w1 ⟨rfl, hw1⟩; rw [hw1])
    go_ret
    exact ⟨by rw [hR.out]; (try simp), hX.out⟩
  | false =>
    cases b2 with
    | true =>
      clear h3 h4 h5 h6 h7 h8 h9
      go_enter Try.func26, Try.ntmps26
      go_wp2_with (go_at_call 40; (with_reducible refine (cD _).mono ?_); rintro e w1 ⟨rfl, hw1⟩; rw [hw1])
      go_ret
      exact ⟨by rw [hR.out]; (try simp), hX.out⟩
    | false =>
      cases b3 with
      | true =>
        clear h4 h5 h6 h7 h8 h9
        go_enter Try.func26, Try.ntmps26
        go_wp2_with (go_at_call 40; (with_reducible refine (cD _).mono ?_); rintro e w1 ⟨rfl, hw1⟩; rw [hw1])
        go_ret
        exact ⟨by rw [hR.out]; (try simp), hX.out⟩
      | false =>
        cases b4 with
        | true =>
          clear h5 h6 h7 h8 h9
          go_enter Try.func26, Try.ntmps26
          go_wp2_with (go_at_call 40; (with_reducible refine (cD _).mono ?_); rintro e w1 ⟨rfl, hw1⟩; rw [hw1])
          go_ret
          exact ⟨by rw [hR.out]; (try simp), hX.out⟩
        | false =>
          cases b5 with
          | true =>
            cases b6 with
            | true =>
              clear h7 h8 h9
              go_enter Try.func26, Try.ntmps26
              go_wp2_with (go_at_call 40; (with_reducible refine (cD _).mono ?_); rintro e w1 ⟨rfl, hw1⟩; rw [hw1])
              go_ret
              exact ⟨by rw [hR.out]; (try simp), hX.out⟩
            | false =>
              cases b7 with
              | true =>
                clear h8 h9
                go_enter Try.func26, Try.ntmps26
                go_wp2_with (go_at_call 40; (with_reducible refine (cD _).mono ?_); rintro e w1 ⟨rfl, hw1⟩; rw [hw1])
                go_ret
                exact ⟨by rw [hR.out]; (try simp), hX.out⟩
              | false =>
                cases b8 with
                | true =>
                  cases b9 with
                  | true =>
                    cases em with
                    | true =>
                      go_enter Try.func26, Try.ntmps26
                      go_wp2_with (go_at_call 40; (with_reducible refine (cD _).mono ?_); rintro e w1 ⟨rfl, hw1⟩; rw [hw1])
                      go_ret
                      exact ⟨by rw [hR.out]; (try simp), hX.out⟩
                    | false =>
                      go_enter Try.func26, Try.ntmps26
                      go_wp2_with (go_at_call 40; (with_reducible refine (cD _).mono ?_); rintro e w1 ⟨rfl, hw1⟩; rw [hw1])
                      go_ret
                      exact ⟨by rw [hR.out]; (try simp), hX.out⟩
                  | false =>
                    cases em with
                    | true =>
                      go_enter Try.func26, Try.ntmps26
                      go_wp2_with (go_at_call 40; (with_reducible refine (cD _).mono ?_); rintro e w1 ⟨rfl, hw1⟩; rw [hw1])
                      go_ret
                      exact ⟨by rw [hR.out]; (try simp), hX.out⟩
                    | false =>
                      go_enter Try.func26, Try.ntmps26
                      go_wp2_with (go_at_call 40; (with_reducible refine (cD _).mono ?_); rintro e w1 ⟨rfl, hw1⟩; rw [hw1])
                      go_ret
                      exact ⟨by rw [hR.out]; (try simp), hX.out⟩
                | false =>
                  cases b9 with
                  | true =>
                    cases em with
                    | true =>
                      go_enter Try.func26, Try.ntmps26
                      go_wp2_with (go_at_call 40; (with_reducible refine (cD _).mono ?_); rintro e w1 ⟨rfl, hw1⟩; rw [hw1])
                      go_ret
                      exact ⟨by rw [hR.out]; (try simp), hX.out⟩
                    | false =>
                      go_enter Try.func26, Try.ntmps26
                      go_wp2_with (go_at_call 40; (with_reducible refine (cD _).mono ?_); rintro e w1 ⟨rfl, hw1⟩; rw [hw1])
                      go_ret
                      exact ⟨by rw [hR.out]; (try simp), hX.out⟩
                  | false =>
                    cases em with
                    | true =>
                      go_enter Try.func26, Try.ntmps26
                      go_wp2_with (go_at_call 40; (with_reducible refine (cD _).mono ?_); rintro e w1 ⟨rfl, hw1⟩; rw [hw1])
                      go_ret
                      exact ⟨by rw [hR.out]; (try simp), hX.out⟩
                    | false =>
                      go_enter Try.func26, Try.ntmps26
                      go_wp2_with (go_at_call 40; (with_reducible refine (cD _).mono ?_); rintro e w1 ⟨rfl, hw1⟩; rw [hw1])
                      go_ret
                      exact ⟨by rw [hR.out]; (try simp), hX.out⟩
          | false =>
            cases b8 with
            | true =>
              cases b9 with
              | true =>
                cases em with
                | true =>
                  clear h6 h7
                  go_enter Try.func26, Try.ntmps26
                  go_wp2_with (go_at_call 40; (with_reducible refine (cD _).mono ?_); rintro e w1 ⟨rfl, hw1⟩; rw [hw1])
                  go_ret
                  exact ⟨by rw [hR.out]; (try simp), hX.out⟩
                | false =>
                  clear h6 h7
                  go_enter Try.func26, Try.ntmps26
                  go_wp2_with (go_at_call 40; (with_reducible refine (cD _).mono ?_); rintro e w1 ⟨rfl, hw1⟩; rw [hw1])
                  go_ret
                  exact ⟨by rw [hR.out]; (try simp), hX.out⟩
              | false =>
                cases em with
                | true =>
                  clear h6 h7
                  go_enter Try.func26, Try.ntmps26
                  go_wp2_with (go_at_call 40; (with_reducible refine (cD _).mono ?_); rintro e w1 ⟨rfl, hw1⟩; rw [hw1])
                  go_ret
                  exact ⟨by rw [hR.out]; (try simp), hX.out⟩
                | false =>
                  clear h6 h7
                  go_enter Try.func26, Try.ntmps26
                  go_wp2_with (go_at_call 40; (with_reducible refine (cD _).mono ?_); rintro e w1 ⟨rfl, hw1⟩; rw [hw1])
                  go_ret
                  exact ⟨by rw [hR.out]; (try simp), hX.out⟩
            | false =>
              cases b9 with
              | true =>
                cases em with
                | true =>
                  clear h6 h7
                  go_enter Try.func26, Try.ntmps26
                  go_wp2_with (go_at_call 40; (with_reducible refine (cD _).mono ?_); rintro e w1 ⟨rfl, hw1⟩; rw [hw1])
                  go_ret
                  exact ⟨by rw [hR.out]; (try simp), hX.out⟩
                | false =>
                  clear h6 h7
                  go_enter Try.func26, Try.ntmps26
                  go_wp2_with (go_at_call 40; (with_reducible refine (cD _).mono ?_); rintro e w1 ⟨rfl, hw1⟩; rw [hw1])
                  go_ret
                  exact ⟨by rw [hR.out]; (try simp), hX.out⟩
              | false =>
                cases em with
                | true =>
                  clear h6 h7
                  go_enter Try.func26, Try.ntmps26
                  go_wp2_with (go_at_call 40; (with_reducible refine (cD _).mono ?_); rintro e w1 ⟨rfl, hw1⟩; rw [hw1])
                  go_ret
                  exact ⟨by rw [hR.out]; (try simp), hX.out⟩
                | false =>
                  clear h6 h7
                  go_enter Try.func26, Try.ntmps26
                  go_wp2_with (go_at_call 40; (with_reducible refine (cD _).mono ?_); rintro e w1 ⟨rfl, hw1⟩; rw [hw1])
                  go_ret
                  exact ⟨by rw [hR.out]; (try simp), hX.out⟩
end Go.Proofs.Ytklpifammbnldaa.pg
