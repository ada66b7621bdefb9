/- WordPowers answers true for every word a and every n: Power(a, n) of package word is a to the n, round, as the document's own answer has it. No condition beside the given row's own. The frame round the walk was written by the kit's proof-skeleton; the walk is ours. -/
import Derived.Test.YtjlhiagkkpjehacRows
import Derived.WalkKit
import Derived.ProofKit
import Derived.OpenShut
import Derived.ShutString
import Derived.Test.YtjlhiagkkpjehacWrap
import Derived.Test.YtjlhiagkkpjehacBits
import Derived.Test.YtjlhiagkkpjehacWord
import Derived.Test.YtjlhiagkkpjehacPow
import Derived.WalkSpells
import Derived.WalkLawsBesides
namespace Go.Proofs.Ytjlhiagkkpjehac.wordPowers
open Go.ChangeShapes Go.WideShapes Go.ChangeAt Go.RowKit
open Go.ChangeMaps (open_string shut_string)
open wrapped word
set_option linter.unusedVariables false      -- a walk need not use every 'w<i>' (that an integer argument fits its kind)

theorem own : ownKnob Try.prog.godebug = none := by kernel_rfl

/-! ### STEP 1: THE WALK: the Go text returns true. 'Grown w w'': the world has at most new blocks (Derived/RowKit3.lean). Part the cases AHEAD of 'go_enter' where a test parts the walk; take each callee by a contract of your own. -/
set_option maxRecDepth 100000 in
set_option maxHeartbeats 1000000 in
theorem walk (a0 : Int) (a1 : Int) (w0 : (Lit.int .i64 a0).wf = true) (w1 : (Lit.int .u64 a1).wf = true) (w : World) :
    Calls Try.prog 4 #[.int .i64 a0, .int .u64 a1] w fun e w' => e = .returned (.bool true) ∧ Grown w w' := by
  obtain ⟨la, ha⟩ := wf_bounds w0
  obtain ⟨lb, hb⟩ := wf_ubounds w1
  obtain ⟨N, rfl⟩ := Int.eq_ofNat_of_zero_le lb
  have hN : N < 18446744073709551616 := by omega
  have p34 : pw 3 4 = 81 := by unfold pw; decide +kernel
  have c34 : ∀ w : World, Calls Try.prog 10 #[.int .i64 3, .int .u64 4] w fun e w' => e = .returned (.int .i64 81) ∧ w' = w := by
    intro w
    have h := power_any 3 4 (by omega) (by omega) (by omega) w
    rw [p34] at h
    exact h
  obtain ⟨x, hx⟩ : ∃ x, Hid (pw a0 N = x) := ⟨_, rfl⟩
  have c1 := power_any a0 N la ha hN
  have c2 := refpower_any a0 N la ha hN
  rw [hx.out] at c1 c2
  clear p34 hx lb hb hN
  go_enter Try.func4, Try.ntmps4
  go_wp2_with (first | (go_at_call 7; refine (speaks_any _).mono ?_; rintro e w' ⟨rfl, rfl⟩) | (go_at_call 10; first | (with_reducible refine (c1 _).mono ?_; rintro e w' ⟨rfl, rfl⟩) | (with_reducible refine (c34 _).mono ?_; rintro e w' ⟨rfl, rfl⟩)) | (go_at_call 11; with_reducible refine (c2 _).mono ?_; rintro e w' ⟨rfl, rfl⟩))
  go_ret
  exact ⟨rfl, Grown.refl _⟩

/-! ### THE ROW's STEP: WRITTEN OUT: LEAVE IT -/
set_option maxRecDepth 100000 in
theorem lifted (os : Os) (started : os.Started) (H : Type) (enc : TypeId × Value → H) :
    ReturnsInHanded {} Try.checked os 4 .any (Rows.wordPowersSpec.pre6 enc Try.prog Try.f4 Rows.wordPowersRow.domain false) (Rows.wordPowersSpec.post enc Try.prog Try.f4 false true false false) := by
  refine returnsInHanded_of_change (C := Try.checked) own started (by kernel_rfl) Try.func4
    (ChangeSpec.witness6 (enc := enc) (C := Try.checked) false ⟨#[], #[.int .i64 0, .int .u64 0], []⟩ 8 (by kernel_rfl) (by kernel_rfl) (by kernel_rfl) (by kernel_rfl)) ?_
  intro W base args ds gs before hval0 hW hcnd _
  have hval : ∀ (j : Nat) t v, Try.f4.params[j]? = some t → args[j]? = some v → Value.okWide Try.prog W .any base t v := hval0
  have hW' := hW
  obtain ⟨p, q, hA0, hV, rfl, hfz, hnd⟩ := hW
  have hA : DataW.TrodAll enc Try.prog W 0 (fun _ => true) true Try.f4.params.toList args.toList ds p := hA0
  rw [Try.params4] at hA hval
  obtain ⟨v0, vs0, d0, ds0, p0, q0, hargs, rfl, rfl, h0, r0⟩ := trodAll_cons hA
  obtain ⟨v1, vs1, d1, ds1, p1, q1, rfl, rfl, rfl, h1, r1⟩ := trodAll_cons r0
  obtain ⟨rfl, rfl, rfl⟩ := trodAll_nil r1
  obtain rfl : args = #[v0, v1] := by cases args; simp_all
  obtain ⟨rfl, rfl⟩ := trodVars_none hV
  obtain ⟨a0, rfl, rfl, rfl, w0⟩ := open_int Try.underlying2 (hval 0 2 v0 rfl rfl) h0
  obtain ⟨a1, rfl, rfl, rfl, w1⟩ := open_int Try.underlying26 (hval 1 26 v1 rfl rfl) h1
  clear hA0 hval0
  simp only [List.append_nil] at hW'
  refine (walk a0 a1 w0 w1 W).mono fun e W' ⟨he, hg⟩ => ?_
  subst he
  exact ⟨_, rfl, post_of_same (pa := []) (pv := []) hW' (fun _ _ _ => (trodAll_cons_mk (shut_bool Try.underlying4 _) trodAll_mk0)) (fun sp _ => (trodAll_cons_mk (shut_int Try.underlying2 w0) (trodAll_cons_mk (shut_int Try.underlying26 w1) trodAll_mk0))) (fun _ _ => rfl) rfl
    (hg.frame _) hg.2.1 (ok_one (by kernel_rfl) rfl (okWide_bool_mk Try.underlying4 _))⟩

theorem over : Rows.wordPowersRow.holds Try.pinned (OpenSpec.ofChange Rows.wordPowersSpec) :=
  OpenClaim.holds_of_wide 4 Try.f4 rfl rfl rfl rfl rfl rfl rfl ⟨rfl, rfl, rfl, rfl, rfl⟩ rfl rfl rfl rfl rfl (by kernel_rfl) Try.func4 (by kernel_rfl)
    (of_decide_eq_true (by kernel_rfl)) (by unfold Func.isWrapper; first | (rw [if_pos (by decide +kernel)]; kernel_rfl) | (rw [if_neg (by decide +kernel)]; exact ⟨rfl, rfl⟩))
    (fun os started H enc _ => lifted os started H enc)

/-- ████ THE STATEMENT ████ -/
theorem proved : Rows.WordPowersSaid :=
  over
end Go.Proofs.Ytjlhiagkkpjehac.wordPowers
namespace Go.Proofs.Ytjlhiagkkpjehac
theorem wordPowers_holds : Rows.WordPowersSaid := wordPowers.proved
#print axioms wordPowers_holds
end Go.Proofs.Ytjlhiagkkpjehac
