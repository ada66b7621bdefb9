/- WordQuotient answers true for all words a and b: if b is not 0, a is div times b and rem, round, rem is 0 or has a's sign, and is less in size than b; if b is 0, both are refused with ErrDivide. No condition beside the given row's own. The frame round the walk was written by the kit's proof-skeleton; the walk is ours. -/
import Derived.Test.YtjlhiagkkpjehadRows
import Derived.WalkKit
import Derived.ProofKit
import Derived.OpenShut
import Derived.ShutString
import Derived.Test.YtjlhiagkkpjehadWrap
import Derived.Test.YtjlhiagkkpjehadWord
import Derived.Test.YtjlhiagkkpjehadDid
import Derived.WalkSpells
import Derived.WalkLawsBesides
namespace Go.Proofs.Ytjlhiagkkpjehad.wordQuotient
open Go.ChangeShapes Go.WideShapes Go.ChangeAt Go.RowKit
open Go.ChangeMaps (open_string shut_string)
open wrapped word
set_option linter.unusedVariables false      -- a walk need not use every 'w<i>' (that an integer argument fits its kind)

theorem own : ownKnob Try.prog.godebug = none := by kernel_rfl

/-! ### STEP 1: THE WALK: the Go text returns true. 'Grown w w'': the world has at most new blocks (Derived/RowKit3.lean). Part the cases AHEAD of 'go_enter' where a test parts the walk; take each callee by a contract of your own. -/
set_option maxRecDepth 100000 in
set_option maxHeartbeats 1000000 in
theorem walk (a0 : Int) (a1 : Int) (w0 : (Lit.int .i64 a0).wf = true) (w1 : (Lit.int .i64 a1).wf = true) (w : World) :
    Calls Try.prog 4 #[.int .i64 a0, .int .i64 a1] w fun e w' => e = .returned (.bool true) ∧ Grown w w' := by
  obtain ⟨la, ha⟩ := wf_bounds w0
  obtain ⟨lb, hb⟩ := wf_bounds w1
  by_cases hz : a1 = 0
  · subst hz
    go_enter Try.func4, Try.ntmps4
    go_wp2_with (first | (go_at_call 9; refine (speaks_any _).mono ?_; rintro e w' ⟨rfl, rfl⟩) | (go_at_call 12; first | (with_reducible refine (div_zero _ _ _ rfl).mono ?_; rintro e w' ⟨rfl, rfl⟩) | (with_reducible refine (rem_zero _ _ _ rfl).mono ?_; rintro e w' ⟨rfl, rfl⟩)))
    go_ret
    exact ⟨rfl, Grown.refl _⟩
  · have hz1 : (a1 == 0) = false := by simpa using hz
    have e1 : (wrap64 (wrap64 (wrap64 (a0.tdiv a1) * a1) + a0.tmod a1) != a0) = false := by
      rw [wrap64_mull, wrap64_addl]
      have := Int.tdiv_mul_add_tmod a0 a1
      rw [this, wrap64_id _ la ha]; simp
    obtain ⟨sp, sn⟩ := tmod_size a0 a1 hz
    obtain ⟨gp, gn⟩ := tmod_sign a0 a1
    obtain ⟨q, hq⟩ : ∃ q, Hid (wrap64 (a0.tdiv a1) = q) := ⟨_, rfl⟩
    obtain ⟨r, hr⟩ : ∃ r, Hid (a0.tmod a1 = r) := ⟨_, rfl⟩
    rw [hq.out, hr.out] at e1
    rw [hr.out] at sp sn gp gn
    by_cases hp : 0 < a1
    · obtain ⟨s1, s2⟩ := sp hp
      clear sp sn
      rcases Int.lt_trichotomy r 0 with hs | hs | hs
      · have q1 : a0 < 0 := by omega
        clear gp gn
        go_enter Try.func4, Try.ntmps4
        go_wp2_with (first | (go_at_call 9; refine (speaks_any _).mono ?_; rintro e w' ⟨rfl, rfl⟩) | (go_at_call 12; first | (with_reducible refine (div_as _ _ _ _ hz1 hz hq).mono ?_; rintro e w' ⟨rfl, rfl⟩) | (with_reducible refine (rem_as _ _ _ _ hz1 hz hr).mono ?_; rintro e w' ⟨rfl, rfl⟩)) | (go_at_call 10; (with_reducible refine (did_mul _ _ _).mono ?_; rintro e w' ⟨rfl, rfl⟩)) | (go_at_call 11; refine (pair_add _ _ _ _ _).mono ?_; rintro e w' ⟨rfl, rfl⟩))
        go_ret
        exact ⟨rfl, Grown.refl _⟩
      · subst hs
        have e1' : (wrap64 (wrap64 (q * a1)) != a0) = false := by simpa using e1
        clear gp gn e1
        go_enter Try.func4, Try.ntmps4
        go_wp2_with (first | (go_at_call 9; refine (speaks_any _).mono ?_; rintro e w' ⟨rfl, rfl⟩) | (go_at_call 12; first | (with_reducible refine (div_as _ _ _ _ hz1 hz hq).mono ?_; rintro e w' ⟨rfl, rfl⟩) | (with_reducible refine (rem_as _ _ _ _ hz1 hz hr).mono ?_; rintro e w' ⟨rfl, rfl⟩)) | (go_at_call 10; (with_reducible refine (did_mul _ _ _).mono ?_; rintro e w' ⟨rfl, rfl⟩)) | (go_at_call 11; refine (pair_add _ _ _ _ _).mono ?_; rintro e w' ⟨rfl, rfl⟩))
        go_ret
        exact ⟨rfl, Grown.refl _⟩
      · have q1 : 0 < a0 := by omega
        have q2 : decide (a0 < 0) = false := by simp; omega
        have q3 : decide (r < 0) = false := by simp; omega
        have e2 : (!decide (r < 0) == decide (a0 < 0)) = false := by simp; omega
        have e5 : (false != decide (a0 < 0)) = false := by simp; omega
        clear gp gn
        go_enter Try.func4, Try.ntmps4
        go_wp2_with (first | (go_at_call 9; refine (speaks_any _).mono ?_; rintro e w' ⟨rfl, rfl⟩) | (go_at_call 12; first | (with_reducible refine (div_as _ _ _ _ hz1 hz hq).mono ?_; rintro e w' ⟨rfl, rfl⟩) | (with_reducible refine (rem_as _ _ _ _ hz1 hz hr).mono ?_; rintro e w' ⟨rfl, rfl⟩)) | (go_at_call 10; (with_reducible refine (did_mul _ _ _).mono ?_; rintro e w' ⟨rfl, rfl⟩)) | (go_at_call 11; refine (pair_add _ _ _ _ _).mono ?_; rintro e w' ⟨rfl, rfl⟩))
        go_ret
        exact ⟨rfl, Grown.refl _⟩
    · have hm : a1 < 0 := by omega
      obtain ⟨s1, s2⟩ := sn hm
      clear sp sn
      rcases Int.lt_trichotomy r 0 with hs | hs | hs
      · have q1 : a0 < 0 := by omega
        clear gp gn
        go_enter Try.func4, Try.ntmps4
        go_wp2_with (first | (go_at_call 9; refine (speaks_any _).mono ?_; rintro e w' ⟨rfl, rfl⟩) | (go_at_call 12; first | (with_reducible refine (div_as _ _ _ _ hz1 hz hq).mono ?_; rintro e w' ⟨rfl, rfl⟩) | (with_reducible refine (rem_as _ _ _ _ hz1 hz hr).mono ?_; rintro e w' ⟨rfl, rfl⟩)) | (go_at_call 10; (with_reducible refine (did_mul _ _ _).mono ?_; rintro e w' ⟨rfl, rfl⟩)) | (go_at_call 11; refine (pair_add _ _ _ _ _).mono ?_; rintro e w' ⟨rfl, rfl⟩))
        go_ret
        exact ⟨rfl, Grown.refl _⟩
      · subst hs
        have e1' : (wrap64 (wrap64 (q * a1)) != a0) = false := by simpa using e1
        clear gp gn e1
        go_enter Try.func4, Try.ntmps4
        go_wp2_with (first | (go_at_call 9; refine (speaks_any _).mono ?_; rintro e w' ⟨rfl, rfl⟩) | (go_at_call 12; first | (with_reducible refine (div_as _ _ _ _ hz1 hz hq).mono ?_; rintro e w' ⟨rfl, rfl⟩) | (with_reducible refine (rem_as _ _ _ _ hz1 hz hr).mono ?_; rintro e w' ⟨rfl, rfl⟩)) | (go_at_call 10; (with_reducible refine (did_mul _ _ _).mono ?_; rintro e w' ⟨rfl, rfl⟩)) | (go_at_call 11; refine (pair_add _ _ _ _ _).mono ?_; rintro e w' ⟨rfl, rfl⟩))
        go_ret
        exact ⟨rfl, Grown.refl _⟩
      · have q1 : 0 < a0 := by omega
        have q2 : decide (a0 < 0) = false := by simp; omega
        have q3 : decide (r < 0) = false := by simp; omega
        have e2 : (!decide (r < 0) == decide (a0 < 0)) = false := by simp; omega
        have e6 : a1 < -r := by omega
        have e5 : (false != decide (a0 < 0)) = false := by simp; omega
        clear gp gn
        go_enter Try.func4, Try.ntmps4
        go_wp2_with (first | (go_at_call 9; refine (speaks_any _).mono ?_; rintro e w' ⟨rfl, rfl⟩) | (go_at_call 12; first | (with_reducible refine (div_as _ _ _ _ hz1 hz hq).mono ?_; rintro e w' ⟨rfl, rfl⟩) | (with_reducible refine (rem_as _ _ _ _ hz1 hz hr).mono ?_; rintro e w' ⟨rfl, rfl⟩)) | (go_at_call 10; (with_reducible refine (did_mul _ _ _).mono ?_; rintro e w' ⟨rfl, rfl⟩)) | (go_at_call 11; refine (pair_add _ _ _ _ _).mono ?_; rintro e w' ⟨rfl, rfl⟩))
        go_ret
        exact ⟨rfl, Grown.refl _⟩

/-! ### THE ROW's STEP: WRITTEN OUT: LEAVE IT -/
set_option maxRecDepth 100000 in
theorem lifted (os : Os) (started : os.Started) (H : Type) (enc : TypeId × Value → H) :
    ReturnsInHanded {} Try.checked os 4 .any (Rows.wordQuotientSpec.pre6 enc Try.prog Try.f4 Rows.wordQuotientRow.domain false) (Rows.wordQuotientSpec.post enc Try.prog Try.f4 false true false false) := by
  refine returnsInHanded_of_change (C := Try.checked) own started (by kernel_rfl) Try.func4
    (ChangeSpec.witness6 (enc := enc) (C := Try.checked) false ⟨#[], #[.int .i64 0, .int .i64 0], []⟩ 8 (by kernel_rfl) (by kernel_rfl) (by kernel_rfl) (by kernel_rfl)) ?_
  intro W base args ds gs before hval0 hW hcnd _
  have hval : ∀ (j : Nat) t v, Try.f4.params[j]? = some t → args[j]? = some v → Value.okWide Try.prog W .any base t v := hval0
  have hW' := hW
  obtain ⟨p, q, hA0, hV, rfl, hfz, hnd⟩ := hW
  have hA : DataW.TrodAll enc Try.prog W 0 (fun _ => true) true Try.f4.params.toList args.toList ds p := hA0
  rw [Try.params4] at hA hval
  obtain ⟨v0, vs0, d0, ds0, p0, q0, hargs, rfl, rfl, h0, r0⟩ := trodAll_cons hA
  obtain ⟨v1, vs1, d1, ds1, p1, q1, rfl, rfl, rfl, h1, r1⟩ := trodAll_cons r0
  obtain ⟨rfl, rfl, rfl⟩ := trodAll_nil r1
  obtain rfl : args = #[v0, v1] := by cases args; simp_all
  obtain ⟨rfl, rfl⟩ := trodVars_none hV
  obtain ⟨a0, rfl, rfl, rfl, w0⟩ := open_int Try.underlying2 (hval 0 2 v0 rfl rfl) h0
  obtain ⟨a1, rfl, rfl, rfl, w1⟩ := open_int Try.underlying2 (hval 1 2 v1 rfl rfl) h1
  clear hA0 hval0
  simp only [List.append_nil] at hW'
  refine (walk a0 a1 w0 w1 W).mono fun e W' ⟨he, hg⟩ => ?_
  subst he
  exact ⟨_, rfl, post_of_same (pa := []) (pv := []) hW' (fun _ _ _ => (trodAll_cons_mk (shut_bool Try.underlying4 _) trodAll_mk0)) (fun sp _ => (trodAll_cons_mk (shut_int Try.underlying2 w0) (trodAll_cons_mk (shut_int Try.underlying2 w1) trodAll_mk0))) (fun _ _ => rfl) rfl
    (hg.frame _) hg.2.1 (ok_one (by kernel_rfl) rfl (okWide_bool_mk Try.underlying4 _))⟩

theorem over : Rows.wordQuotientRow.holds Try.pinned (OpenSpec.ofChange Rows.wordQuotientSpec) :=
  OpenClaim.holds_of_wide 4 Try.f4 rfl rfl rfl rfl rfl rfl rfl ⟨rfl, rfl, rfl, rfl, rfl⟩ rfl rfl rfl rfl rfl (by kernel_rfl) Try.func4 (by kernel_rfl)
    (of_decide_eq_true (by kernel_rfl)) (by unfold Func.isWrapper; first | (rw [if_pos (by decide +kernel)]; kernel_rfl) | (rw [if_neg (by decide +kernel)]; exact ⟨rfl, rfl⟩))
    (fun os started H enc _ => lifted os started H enc)

/-- ████ THE STATEMENT ████ -/
theorem proved : Rows.WordQuotientSaid :=
  over
end Go.Proofs.Ytjlhiagkkpjehad.wordQuotient
namespace Go.Proofs.Ytjlhiagkkpjehad
theorem wordQuotient_holds : Rows.WordQuotientSaid := wordQuotient.proved
#print axioms wordQuotient_holds
end Go.Proofs.Ytjlhiagkkpjehad
