/- WordExact answers true for all words a and b: sub of what add made is a again, and add goes over just if the sum is not on the side of a on which b's sign says. No condition beside the given row's own. The frame round the walk was written by the kit's proof-skeleton; the walk is ours. -/
import Derived.Test.YtjlhiagkkpjehadRows
import Derived.WalkKit
import Derived.ProofKit
import Derived.OpenShut
import Derived.ShutString
import Derived.Test.YtjlhiagkkpjehadWrap
import Derived.Test.YtjlhiagkkpjehadBits
import Derived.Test.YtjlhiagkkpjehadWord
import Derived.Test.YtjlhiagkkpjehadDid
import Derived.WalkSpells
import Derived.WalkLawsBesides
namespace Go.Proofs.Ytjlhiagkkpjehad.wordExact
open Go.ChangeShapes Go.WideShapes Go.ChangeAt Go.RowKit
open Go.ChangeMaps (open_string shut_string)
open wrapped word
set_option linter.unusedVariables false      -- a walk need not use every 'w<i>' (that an integer argument fits its kind)

theorem own : ownKnob Try.prog.godebug = none := by kernel_rfl

/-! ### STEP 1: THE WALK: the Go text returns true. 'Grown w w'': the world has at most new blocks (Derived/RowKit3.lean). Part the cases AHEAD of 'go_enter' where a test parts the walk; take each callee by a contract of your own. -/
set_option maxRecDepth 100000 in
set_option maxHeartbeats 1000000 in
theorem walk (a0 : Int) (a1 : Int) (w0 : (Lit.int .i64 a0).wf = true) (w1 : (Lit.int .i64 a1).wf = true) (w : World) :
    Calls Try.prog 7 #[.int .i64 a0, .int .i64 a1] w fun e w' => e = .returned (.bool true) ∧ Grown w w' := by
  obtain ⟨la, ha⟩ := wf_bounds w0
  obtain ⟨lb, hb⟩ := wf_bounds w1
  have e1 : (wrap64 (wrap64 (a0 + a1) + wrap64 (-a1)) != a0) = false := by
    have : wrap64 (wrap64 (a0 + a1) + wrap64 (-a1)) = a0 := by unfold wrap64; omega
    simpa using this
  have e2 : (decide (bits BinOp.and IntKind.i64 (bits BinOp.xor IntKind.i64 a0 (wrap64 (a0 + a1))) (bits BinOp.xor IntKind.i64 a1 (wrap64 (a0 + a1))) < 0) == !decide (a1 < 0) == decide (wrap64 (a0 + a1) < a0)) = true := by
    rw [over_add _ _ _ la ha lb hb (wrap64_lo _) (wrap64_hi _)]
    have : ∀ s, s = wrap64 (a0 + a1) → (s = a0 + a1 ∨ s = a0 + a1 + 18446744073709551616 ∨ s = a0 + a1 - 18446744073709551616) := by intro s hs; rw [hs]; unfold wrap64; omega
    have h3 := this _ rfl
    have h4 := wrap64_lo (a0 + a1)
    have h5 := wrap64_hi (a0 + a1)
    generalize wrap64 (a0 + a1) = s at h3 h4 h5
    by_cases p : a0 < 0 <;> by_cases q : a1 < 0 <;> by_cases r : s < 0 <;> by_cases t : s < a0 <;> first | (exfalso; omega) | simp [p, q, r, t]
  go_enter Try.func7, Try.ntmps7
  go_wp2_with (first | (go_at_call 9; refine (speaks_any _).mono ?_; rintro e w' ⟨rfl, rfl⟩) | (go_at_call 10; first | (with_reducible refine (did_add _ _ _).mono ?_; rintro e w' ⟨rfl, rfl⟩) | (with_reducible refine (did_sub _ _ _).mono ?_; rintro e w' ⟨rfl, rfl⟩)) | (go_at_call 12; (with_reducible refine (add_any _ _ _).mono ?_; rintro e w' ⟨rfl, rfl⟩)) | go_in)
  go_ret
  exact ⟨rfl, Grown.refl _⟩

/-! ### THE ROW's STEP: WRITTEN OUT: LEAVE IT -/
set_option maxRecDepth 100000 in
theorem lifted (os : Os) (started : os.Started) (H : Type) (enc : TypeId × Value → H) :
    ReturnsInHanded {} Try.checked os 7 .any (Rows.wordExactSpec.pre6 enc Try.prog Try.f7 Rows.wordExactRow.domain false) (Rows.wordExactSpec.post enc Try.prog Try.f7 false true false false) := by
  refine returnsInHanded_of_change (C := Try.checked) own started (by kernel_rfl) Try.func7
    (ChangeSpec.witness6 (enc := enc) (C := Try.checked) false ⟨#[], #[.int .i64 0, .int .i64 0], []⟩ 8 (by kernel_rfl) (by kernel_rfl) (by kernel_rfl) (by kernel_rfl)) ?_
  intro W base args ds gs before hval0 hW hcnd _
  have hval : ∀ (j : Nat) t v, Try.f7.params[j]? = some t → args[j]? = some v → Value.okWide Try.prog W .any base t v := hval0
  have hW' := hW
  obtain ⟨p, q, hA0, hV, rfl, hfz, hnd⟩ := hW
  have hA : DataW.TrodAll enc Try.prog W 0 (fun _ => true) true Try.f7.params.toList args.toList ds p := hA0
  rw [Try.params7] at hA hval
  obtain ⟨v0, vs0, d0, ds0, p0, q0, hargs, rfl, rfl, h0, r0⟩ := trodAll_cons hA
  obtain ⟨v1, vs1, d1, ds1, p1, q1, rfl, rfl, rfl, h1, r1⟩ := trodAll_cons r0
  obtain ⟨rfl, rfl, rfl⟩ := trodAll_nil r1
  obtain rfl : args = #[v0, v1] := by cases args; simp_all
  obtain ⟨rfl, rfl⟩ := trodVars_none hV
  obtain ⟨a0, rfl, rfl, rfl, w0⟩ := open_int Try.underlying2 (hval 0 2 v0 rfl rfl) h0
  obtain ⟨a1, rfl, rfl, rfl, w1⟩ := open_int Try.underlying2 (hval 1 2 v1 rfl rfl) h1
  clear hA0 hval0
  simp only [List.append_nil] at hW'
  refine (walk a0 a1 w0 w1 W).mono fun e W' ⟨he, hg⟩ => ?_
  subst he
  exact ⟨_, rfl, post_of_same (pa := []) (pv := []) hW' (fun _ _ _ => (trodAll_cons_mk (shut_bool Try.underlying4 _) trodAll_mk0)) (fun sp _ => (trodAll_cons_mk (shut_int Try.underlying2 w0) (trodAll_cons_mk (shut_int Try.underlying2 w1) trodAll_mk0))) (fun _ _ => rfl) rfl
    (hg.frame _) hg.2.1 (ok_one (by kernel_rfl) rfl (okWide_bool_mk Try.underlying4 _))⟩

theorem over : Rows.wordExactRow.holds Try.pinned (OpenSpec.ofChange Rows.wordExactSpec) :=
  OpenClaim.holds_of_wide 7 Try.f7 rfl rfl rfl rfl rfl rfl rfl ⟨rfl, rfl, rfl, rfl, rfl⟩ rfl rfl rfl rfl rfl (by kernel_rfl) Try.func7 (by kernel_rfl)
    (of_decide_eq_true (by kernel_rfl)) (by unfold Func.isWrapper; first | (rw [if_pos (by decide +kernel)]; kernel_rfl) | (rw [if_neg (by decide +kernel)]; exact ⟨rfl, rfl⟩))
    (fun os started H enc _ => lifted os started H enc)

/-- ████ THE STATEMENT ████ -/
theorem proved : Rows.WordExactSaid :=
  over
end Go.Proofs.Ytjlhiagkkpjehad.wordExact
namespace Go.Proofs.Ytjlhiagkkpjehad
theorem wordExact_holds : Rows.WordExactSaid := wordExact.proved
#print axioms wordExact_holds
end Go.Proofs.Ytjlhiagkkpjehad
