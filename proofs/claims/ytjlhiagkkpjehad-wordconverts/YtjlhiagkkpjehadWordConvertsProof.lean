/- WordConverts answers true for every word and all operations: a conversion of a conversion by the same operation is it, what fits stays, and a wider one of the same sign ahead changes nothing. No condition beside the given row's own. The frame round the walk was written by the kit's proof-skeleton; the walk is ours. -/
import Derived.Test.YtjlhiagkkpjehadRows
import Derived.WalkKit
import Derived.ProofKit
import Derived.OpenShut
import Derived.ShutString
import Derived.Test.YtjlhiagkkpjehadWrap
import Derived.Test.YtjlhiagkkpjehadBits
import Derived.Test.YtjlhiagkkpjehadWord
import Derived.Test.YtjlhiagkkpjehadOps2
import Derived.Test.YtjlhiagkkpjehadConv
import Derived.WalkSpells
import Derived.WalkLawsBesides
namespace Go.Proofs.Ytjlhiagkkpjehad.wordConverts
open Go.ChangeShapes Go.WideShapes Go.ChangeAt Go.RowKit
open Go.ChangeMaps (open_string shut_string)
open wrapped word
set_option linter.unusedVariables false      -- a walk need not use every 'w<i>' (that an integer argument fits its kind)

theorem own : ownKnob Try.prog.godebug = none := by kernel_rfl

theorem conv_as (k a x : Int) (w : World) (h : 10 ≤ k) (g : k ≤ 15) (he : Hid (cv k a = x)) : Calls Try.prog 12 #[.int .i64 k, .int .i64 a, .int .i64 0] w fun e w' => e = .returned (.tuple #[.int .i64 x, .int .i64 0]) ∧ w' = w :=
  (conv_op k a w h g).mono fun e w' ⟨h1, h2⟩ => ⟨by rw [h1, he.out], h2⟩
theorem fits_as (a k : Int) (x : Int) (w : World) (h : 10 ≤ k) (g : k ≤ 15) (he : Hid (cv k a = x)) : Calls Try.prog 13 #[.int .i64 a, .int .i64 k] w fun e w' => e = .returned (.bool (x == a)) ∧ w' = w :=
  (fits_in a k w h g).mono fun e w' ⟨h1, h2⟩ => ⟨by rw [h1, he.out], h2⟩

/-! ### STEP 1: THE WALK: the Go text returns true. 'Grown w w'': the world has at most new blocks (Derived/RowKit3.lean). Part the cases AHEAD of 'go_enter' where a test parts the walk; take each callee by a contract of your own. -/
set_option maxRecDepth 100000 in
set_option maxHeartbeats 1000000 in
theorem walk (a0 : Int) (a1 : Int) (a2 : Int) (w0 : (Lit.int .i64 a0).wf = true) (w1 : (Lit.int .i64 a1).wf = true) (w2 : (Lit.int .i64 a2).wf = true) (w : World) :
    Calls Try.prog 5 #[.int .i64 a0, .int .i64 a1, .int .i64 a2] w fun e w' => e = .returned (.bool true) ∧ Grown w w' := by
  obtain ⟨la, ha⟩ := wf_bounds w0
  by_cases hn : a1 < 10 ∨ 15 < a1
  · rcases hn with hn | hn
    · go_enter Try.func5, Try.ntmps5
      go_wp2_with (first | (go_at_call 9; refine (speaks_any _).mono ?_; rintro e w' ⟨rfl, rfl⟩) | (go_at_call 12; with_reducible refine (answers _ _ _ la ha (by omega) (by omega) _).mono ?_; rintro e w' ⟨x, y, rfl, rfl⟩))
      go_ret
      exact ⟨rfl, Grown.refl _⟩
    · have hn2 : 10 ≤ a1 := by omega
      go_enter Try.func5, Try.ntmps5
      go_wp2_with (first | (go_at_call 9; refine (speaks_any _).mono ?_; rintro e w' ⟨rfl, rfl⟩) | (go_at_call 12; with_reducible refine (answers _ _ _ la ha (by omega) (by omega) _).mono ?_; rintro e w' ⟨x, y, rfl, rfl⟩))
      go_ret
      exact ⟨rfl, Grown.refl _⟩
  · have n1 : 10 ≤ a1 := by omega
    have n2 : a1 ≤ 15 := by omega
    clear hn
    obtain ⟨y, hy⟩ : ∃ y, Hid (cv a1 a0 = y) := ⟨_, rfl⟩
    by_cases hw : a2 < 10 ∨ 15 < a2
    · rcases hw with hw | hw
      · go_enter Try.func5, Try.ntmps5
        go_wp2_with (first | (go_at_call 9; refine (speaks_any _).mono ?_; rintro e w' ⟨rfl, rfl⟩) | (go_at_call 12; with_reducible refine (conv_as _ _ _ _ n1 n2 hy).mono ?_; rintro e w' ⟨rfl, rfl⟩))
        go_ret
        exact ⟨rfl, Grown.refl _⟩
      · have hw2 : 10 ≤ a2 := by omega
        go_enter Try.func5, Try.ntmps5
        go_wp2_with (first | (go_at_call 9; refine (speaks_any _).mono ?_; rintro e w' ⟨rfl, rfl⟩) | (go_at_call 12; with_reducible refine (conv_as _ _ _ _ n1 n2 hy).mono ?_; rintro e w' ⟨rfl, rfl⟩))
        go_ret
        exact ⟨rfl, Grown.refl _⟩
    · have m1 : 10 ≤ a2 := by omega
      have m2 : a2 ≤ 15 := by omega
      clear hw
      have hyy : Hid (cv a1 y = y) := by show cv a1 y = y; rw [← hy.out]; exact (cv_cv a1 a1 a0 n1 (Int.le_refl _) n2 Iff.rfl).1
      obtain ⟨t, b1, b2⟩ : ∃ t : Bool, (y == a0) = t ∧ (a0 == y) = t := ⟨_, rfl, Bool.beq_comm⟩
      by_cases hs : a1 ≤ a2 ∧ (a1 ≤ 12 ↔ a2 ≤ 12)
      · obtain ⟨hle, hs⟩ := hs
        obtain ⟨v, hv⟩ : ∃ v, Hid (cv a2 a0 = v) := ⟨_, rfl⟩
        have hc := cv_cv a1 a2 a0 n1 hle m2 hs
        rw [hv.out, hy.out] at hc
        have hv1 : Hid (cv a1 v = y) := hc.1
        have hv2 : Hid (cv a2 y = y) := hc.2
        clear hc
        have e2 : (decide (a1 ≤ 12) == decide (a2 ≤ 12)) = true := by simp [hs]
        by_cases h12 : a1 ≤ 12
        · have g12 : a2 ≤ 12 := hs.1 h12
          clear hs
          go_enter Try.func5, Try.ntmps5
          go_wp2_with (first | (go_at_call 9; refine (speaks_any _).mono ?_; rintro e w' ⟨rfl, rfl⟩) | (go_at_call 12; first | (with_reducible refine (conv_as _ _ _ _ n1 n2 hy).mono ?_; rintro e w' ⟨rfl, rfl⟩) | (with_reducible refine (conv_as _ _ _ _ n1 n2 hyy).mono ?_; rintro e w' ⟨rfl, rfl⟩) | (with_reducible refine (conv_as _ _ _ _ m1 m2 hv).mono ?_; rintro e w' ⟨rfl, rfl⟩) | (with_reducible refine (conv_as _ _ _ _ n1 n2 hv1).mono ?_; rintro e w' ⟨rfl, rfl⟩)) | (go_at_call 13; first | (with_reducible refine (fits_as _ _ _ _ n1 n2 hyy).mono ?_; rintro e w' ⟨rfl, rfl⟩) | (with_reducible refine (fits_as _ _ _ _ n1 n2 hy).mono ?_; rintro e w' ⟨rfl, rfl⟩) | (with_reducible refine (fits_as _ _ _ _ m1 m2 hv2).mono ?_; rintro e w' ⟨rfl, rfl⟩)))
          go_ret
          exact ⟨rfl, Grown.refl _⟩
        · have g12 : ¬ a2 ≤ 12 := fun h => h12 (hs.2 h)
          clear hs
          go_enter Try.func5, Try.ntmps5
          go_wp2_with (first | (go_at_call 9; refine (speaks_any _).mono ?_; rintro e w' ⟨rfl, rfl⟩) | (go_at_call 12; first | (with_reducible refine (conv_as _ _ _ _ n1 n2 hy).mono ?_; rintro e w' ⟨rfl, rfl⟩) | (with_reducible refine (conv_as _ _ _ _ n1 n2 hyy).mono ?_; rintro e w' ⟨rfl, rfl⟩) | (with_reducible refine (conv_as _ _ _ _ m1 m2 hv).mono ?_; rintro e w' ⟨rfl, rfl⟩) | (with_reducible refine (conv_as _ _ _ _ n1 n2 hv1).mono ?_; rintro e w' ⟨rfl, rfl⟩)) | (go_at_call 13; first | (with_reducible refine (fits_as _ _ _ _ n1 n2 hyy).mono ?_; rintro e w' ⟨rfl, rfl⟩) | (with_reducible refine (fits_as _ _ _ _ n1 n2 hy).mono ?_; rintro e w' ⟨rfl, rfl⟩) | (with_reducible refine (fits_as _ _ _ _ m1 m2 hv2).mono ?_; rintro e w' ⟨rfl, rfl⟩)))
          go_ret
          exact ⟨rfl, Grown.refl _⟩
      · by_cases hle : a1 ≤ a2
        · by_cases h12 : a1 ≤ 12
          · have g12 : ¬ a2 ≤ 12 := fun h => hs ⟨hle, fun _ => h, fun _ => h12⟩
            clear hs
            go_enter Try.func5, Try.ntmps5
            go_wp2_with (first | (go_at_call 9; refine (speaks_any _).mono ?_; rintro e w' ⟨rfl, rfl⟩) | (go_at_call 12; first | (with_reducible refine (conv_as _ _ _ _ n1 n2 hy).mono ?_; rintro e w' ⟨rfl, rfl⟩) | (with_reducible refine (conv_as _ _ _ _ n1 n2 hyy).mono ?_; rintro e w' ⟨rfl, rfl⟩)) | (go_at_call 13; first | (with_reducible refine (fits_as _ _ _ _ n1 n2 hyy).mono ?_; rintro e w' ⟨rfl, rfl⟩) | (with_reducible refine (fits_as _ _ _ _ n1 n2 hy).mono ?_; rintro e w' ⟨rfl, rfl⟩)))
            go_ret
            exact ⟨rfl, Grown.refl _⟩
          · have g12 : a2 ≤ 12 := by omega
            exfalso; omega
        · clear hs
          go_enter Try.func5, Try.ntmps5
          go_wp2_with (first | (go_at_call 9; refine (speaks_any _).mono ?_; rintro e w' ⟨rfl, rfl⟩) | (go_at_call 12; first | (with_reducible refine (conv_as _ _ _ _ n1 n2 hy).mono ?_; rintro e w' ⟨rfl, rfl⟩) | (with_reducible refine (conv_as _ _ _ _ n1 n2 hyy).mono ?_; rintro e w' ⟨rfl, rfl⟩)) | (go_at_call 13; first | (with_reducible refine (fits_as _ _ _ _ n1 n2 hyy).mono ?_; rintro e w' ⟨rfl, rfl⟩) | (with_reducible refine (fits_as _ _ _ _ n1 n2 hy).mono ?_; rintro e w' ⟨rfl, rfl⟩)))
          go_ret
          exact ⟨rfl, Grown.refl _⟩

/-! ### THE ROW's STEP: WRITTEN OUT: LEAVE IT -/
set_option maxRecDepth 100000 in
theorem lifted (os : Os) (started : os.Started) (H : Type) (enc : TypeId × Value → H) :
    ReturnsInHanded {} Try.checked os 5 .any (Rows.wordConvertsSpec.pre6 enc Try.prog Try.f5 Rows.wordConvertsRow.domain false) (Rows.wordConvertsSpec.post enc Try.prog Try.f5 false true false false) := by
  refine returnsInHanded_of_change (C := Try.checked) own started (by kernel_rfl) Try.func5
    (ChangeSpec.witness6 (enc := enc) (C := Try.checked) false ⟨#[], #[.int .i64 0, .int .i64 0, .int .i64 0], []⟩ 8 (by kernel_rfl) (by kernel_rfl) (by kernel_rfl) (by kernel_rfl)) ?_
  intro W base args ds gs before hval0 hW hcnd _
  have hval : ∀ (j : Nat) t v, Try.f5.params[j]? = some t → args[j]? = some v → Value.okWide Try.prog W .any base t v := hval0
  have hW' := hW
  obtain ⟨p, q, hA0, hV, rfl, hfz, hnd⟩ := hW
  have hA : DataW.TrodAll enc Try.prog W 0 (fun _ => true) true Try.f5.params.toList args.toList ds p := hA0
  rw [Try.params5] at hA hval
  obtain ⟨v0, vs0, d0, ds0, p0, q0, hargs, rfl, rfl, h0, r0⟩ := trodAll_cons hA
  obtain ⟨v1, vs1, d1, ds1, p1, q1, rfl, rfl, rfl, h1, r1⟩ := trodAll_cons r0
  obtain ⟨v2, vs2, d2, ds2, p2, q2, rfl, rfl, rfl, h2, r2⟩ := trodAll_cons r1
  obtain ⟨rfl, rfl, rfl⟩ := trodAll_nil r2
  obtain rfl : args = #[v0, v1, v2] := by cases args; simp_all
  obtain ⟨rfl, rfl⟩ := trodVars_none hV
  obtain ⟨a0, rfl, rfl, rfl, w0⟩ := open_int Try.underlying2 (hval 0 2 v0 rfl rfl) h0
  obtain ⟨a1, rfl, rfl, rfl, w1⟩ := open_int Try.underlying3 (hval 1 3 v1 rfl rfl) h1
  obtain ⟨a2, rfl, rfl, rfl, w2⟩ := open_int Try.underlying3 (hval 2 3 v2 rfl rfl) h2
  clear hA0 hval0
  simp only [List.append_nil] at hW'
  refine (walk a0 a1 a2 w0 w1 w2 W).mono fun e W' ⟨he, hg⟩ => ?_
  subst he
  exact ⟨_, rfl, post_of_same (pa := []) (pv := []) hW' (fun _ _ _ => (trodAll_cons_mk (shut_bool Try.underlying4 _) trodAll_mk0)) (fun sp _ => (trodAll_cons_mk (shut_int Try.underlying2 w0) (trodAll_cons_mk (shut_int Try.underlying3 w1) (trodAll_cons_mk (shut_int Try.underlying3 w2) trodAll_mk0)))) (fun _ _ => rfl) rfl
    (hg.frame _) hg.2.1 (ok_one (by kernel_rfl) rfl (okWide_bool_mk Try.underlying4 _))⟩

theorem over : Rows.wordConvertsRow.holds Try.pinned (OpenSpec.ofChange Rows.wordConvertsSpec) :=
  OpenClaim.holds_of_wide 5 Try.f5 rfl rfl rfl rfl rfl rfl rfl ⟨rfl, rfl, rfl, rfl, rfl⟩ rfl rfl rfl rfl rfl (by kernel_rfl) Try.func5 (by kernel_rfl)
    (of_decide_eq_true (by kernel_rfl)) (by unfold Func.isWrapper; first | (rw [if_pos (by decide +kernel)]; kernel_rfl) | (rw [if_neg (by decide +kernel)]; exact ⟨rfl, rfl⟩))
    (fun os started H enc _ => lifted os started H enc)

/-- ████ THE STATEMENT ████ -/
theorem proved : Rows.WordConvertsSaid :=
  over
end Go.Proofs.Ytjlhiagkkpjehad.wordConverts
namespace Go.Proofs.Ytjlhiagkkpjehad
theorem wordConverts_holds : Rows.WordConvertsSaid := wordConverts.proved
#print axioms wordConverts_holds
end Go.Proofs.Ytjlhiagkkpjehad
