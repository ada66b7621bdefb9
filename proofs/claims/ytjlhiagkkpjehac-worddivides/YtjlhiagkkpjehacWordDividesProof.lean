/- WordDivides answers true for every number of two words and every word d: Divide of package word is the quotient, cut toward nought, and the rest, or the error, as the document's own answer has it. No condition beside the given row's own. The frame round the walk was written by the kit's proof-skeleton; the walk is ours. -/
import Derived.Test.YtjlhiagkkpjehacRows
import Derived.WalkKit
import Derived.ProofKit
import Derived.OpenShut
import Derived.ShutString
import Derived.Test.YtjlhiagkkpjehacWrap
import Derived.Test.YtjlhiagkkpjehacBits
import Derived.Test.YtjlhiagkkpjehacWord
import Derived.Test.YtjlhiagkkpjehacDivide
import Derived.Test.YtjlhiagkkpjehacRefDivA
import Derived.Test.YtjlhiagkkpjehacRefDivB
import Derived.Test.YtjlhiagkkpjehacRefDivC
import Derived.WalkSpells
import Derived.WalkLawsBesides
namespace Go.Proofs.Ytjlhiagkkpjehac.wordDivides
open Go.ChangeShapes Go.WideShapes Go.ChangeAt Go.RowKit
open Go.ChangeMaps (open_string shut_string)
open wrapped word
set_option linter.unusedVariables false      -- a walk need not use every 'w<i>' (that an integer argument fits its kind)

theorem own : ownKnob Try.prog.godebug = none := by kernel_rfl

theorem grown_drewN (w : World) (n : Nat) : Grown w (w.drewN n) := by
  induction n with
  | zero => exact Grown.refl _
  | succ n ih => exact ih.drew
theorem by_wrap (d : Int) (ld : -9223372036854775808 ≤ d) (h : d < 0) : wrap64 (-d) % 18446744073709551616 = -d := by unfold wrap64; omega
theorem both (hi d : Int) (lo : Nat) (lh : -9223372036854775808 ≤ hi) (hh : hi ≤ 9223372036854775807) (hl : lo < 18446744073709551616) (ld : -9223372036854775808 ≤ d) (hd : d ≤ 9223372036854775807) :
    ∃ q r e : Int, (∀ w : World, Calls Try.prog 14 #[.int .i64 hi, .int .u64 lo, .int .i64 d] w fun x w' => ∃ n, x = .returned (.tuple #[.int .i64 q, .int .i64 r, .int .i64 e]) ∧ w' = w.drewN n) ∧
      ∀ w : World, Calls Try.prog 15 #[.int .i64 hi, .int .u64 lo, .int .i64 d] w fun x w' => x = .returned (.tuple #[.int .i64 q, .int .i64 r, .int .i64 e]) ∧ w' = w := by
  by_cases h0 : d = 0
  · subst h0
    exact ⟨0, 0, 20, fun w => (divide_zero hi lo w).mono fun x w' ⟨h1, h2⟩ => ⟨0, h1, h2⟩, fun w => refdivide_zero hi lo w⟩
  · obtain ⟨M, hM⟩ : ∃ M, sz2 hi lo = M := ⟨_, rfl⟩
    obtain ⟨D, hD⟩ : ∃ D, d.natAbs = D := ⟨_, rfl⟩
    have hd0 : (d == 0) = false := by simpa using h0
    have hD0 : 0 < D := by omega
    have hD2 : D ≤ 9223372036854775808 := by omega
    have hMl : M < 2 ^ 128 := by
      rw [show (2 : Nat) ^ 128 = 18446744073709551616 * 18446744073709551616 from by decide]
      unfold sz2 at hM
      omega
    have hst := DInv.start M D hMl
    refine ⟨_, _, _, fun w => divide_any hi d lo M D lh hh hl ld hd h0 hM hD w, fun w => ?_⟩
    by_cases hin : hi < 0 <;> by_cases hdn : d < 0
    · have eh : decide (hi < 0) = true := by simpa using hin
      have ed : decide (d < 0) = true := by simpa using hdn
      rw [eh, ed]
      have hby : IntKind.u64.wrap (wrap64 (-d)) = (D : Int) := by rw [IntKind.wrap_u64, by_wrap d ld hdn]; omega
      by_cases hz : lo = 0
      · exact refdiv_zn lo (-hi).toNat 0 D hi (-1 - hi).toNat hin (by omega) (by omega) (by simp [hz]) (by rw [IntKind.wrap_u64]; omega) d hdn hby lh hh hl (by omega) (by omega) ld hd hd0 hD0 hD2 M (show _ = _ by rw [← hM]; unfold sz2; omega) hst w
      · exact refdiv_nn lo (-1 - hi).toNat (18446744073709551616 - lo) D hi hin (by omega) (by simp [hz]) (by rw [IntKind.wrap_u64]; omega) d hdn hby lh hh hl (by omega) (by omega) ld hd hd0 hD0 hD2 M (show _ = _ by rw [← hM]; unfold sz2; omega) hst w
    · have eh : decide (hi < 0) = true := by simpa using hin
      have ed : decide (d < 0) = false := by simpa using hdn
      rw [eh, ed]
      by_cases hz : lo = 0
      · exact refdiv_zp lo (-hi).toNat 0 D hi (-1 - hi).toNat hin (by omega) (by omega) (by simp [hz]) (by rw [IntKind.wrap_u64]; omega) d (by omega) lh hh hl (by omega) (by omega) ld hd hd0 hD0 hD2 M (show _ = _ by rw [← hM]; unfold sz2; omega) hst w
      · exact refdiv_np lo (-1 - hi).toNat (18446744073709551616 - lo) D hi hin (by omega) (by simp [hz]) (by rw [IntKind.wrap_u64]; omega) d (by omega) lh hh hl (by omega) (by omega) ld hd hd0 hD0 hD2 M (show _ = _ by rw [← hM]; unfold sz2; omega) hst w
    · have eh : decide (hi < 0) = false := by simpa using hin
      have ed : decide (d < 0) = true := by simpa using hdn
      rw [eh, ed]
      have hby : IntKind.u64.wrap (wrap64 (-d)) = (D : Int) := by rw [IntKind.wrap_u64, by_wrap d ld hdn]; omega
      exact refdiv_pn lo hi.toNat lo D hi (by omega) rfl d hdn hby lh hh hl (by omega) (by omega) ld hd hd0 hD0 hD2 M (show _ = _ by rw [← hM]; unfold sz2; omega) hst w
    · have eh : decide (hi < 0) = false := by simpa using hin
      have ed : decide (d < 0) = false := by simpa using hdn
      rw [eh, ed]
      exact refdiv_pp lo hi.toNat lo D hi (by omega) rfl d (by omega) lh hh hl (by omega) (by omega) ld hd hd0 hD0 hD2 M (show _ = _ by rw [← hM]; unfold sz2; omega) hst w
theorem seven (w : World) : Calls Try.prog 14 #[.int .i64 0, .int .u64 7, .int .i64 (-2)] w fun x w' => ∃ n, x = .returned (.tuple #[.int .i64 (-3), .int .i64 1, .int .i64 0]) ∧ w' = w.drewN n := by
  have c := divide_any 0 (-2) 7 7 2 (by decide) (by decide) (by decide) (by decide) (by decide) (by decide) (show sz2 0 ((7 : Nat) : Int) = 7 from rfl) (show (-2 : Int).natAbs = 2 from rfl) w
  have e1 : (if dvBig 7 2 (decide ((0 : Int) < 0) != decide ((-2 : Int) < 0)) = true then (0 : Int) else sg (7 / 2) (decide ((0 : Int) < 0) != decide ((-2 : Int) < 0))) = -3 := by decide +kernel
  have e2 : (if dvBig 7 2 (decide ((0 : Int) < 0) != decide ((-2 : Int) < 0)) = true then (0 : Int) else sg (7 % 2) (decide ((0 : Int) < 0))) = 1 := by decide +kernel
  have e3 : (if dvBig 7 2 (decide ((0 : Int) < 0) != decide ((-2 : Int) < 0)) = true then (24 : Int) else 0) = 0 := by decide +kernel
  rw [e1, e2, e3] at c
  exact c

/-! ### STEP 1: THE WALK: the Go text returns true. 'Grown w w'': the world has at most new blocks (Derived/RowKit3.lean). Part the cases AHEAD of 'go_enter' where a test parts the walk; take each callee by a contract of your own. -/
set_option maxRecDepth 100000 in
set_option maxHeartbeats 1000000 in
theorem walk (a0 : Int) (a1 : Int) (a2 : Int) (w0 : (Lit.int .i64 a0).wf = true) (w1 : (Lit.int .u64 a1).wf = true) (w2 : (Lit.int .i64 a2).wf = true) (w : World) :
    Calls Try.prog 6 #[.int .i64 a0, .int .u64 a1, .int .i64 a2] w fun e w' => e = .returned (.bool true) ∧ Grown w w' := by
  obtain ⟨la, ha⟩ := wf_bounds w0
  obtain ⟨lb, hb⟩ := wf_ubounds w1
  obtain ⟨lc, hc⟩ := wf_bounds w2
  obtain ⟨L, rfl⟩ := Int.eq_ofNat_of_zero_le lb
  obtain ⟨q, r, e, c1, c2⟩ := both a0 a2 L la ha (by omega) lc hc
  have c3 := seven
  clear lb hb w1
  go_enter Try.func6, Try.ntmps6
  go_wp2_with (first | (go_at_call 7; refine (speaks_any _).mono ?_; rintro e w' ⟨rfl, rfl⟩) | (go_at_call 14; first | (with_reducible refine (c3 _).mono ?_; rintro e w7 ⟨n7, rfl, hw7⟩; subst hw7) | (with_reducible refine (c1 _).mono ?_; rintro e w6 ⟨n6, rfl, hw6⟩; subst hw6)) | (go_at_call 15; with_reducible refine (c2 _).mono ?_; rintro e w8 ⟨rfl, hw8⟩; subst hw8))
  go_ret
  exact ⟨rfl, by first | exact grown_drewN _ _ | (simp; exact grown_drewN _ _)⟩

/-! ### THE ROW's STEP: WRITTEN OUT: LEAVE IT -/
set_option maxRecDepth 100000 in
theorem lifted (os : Os) (started : os.Started) (H : Type) (enc : TypeId × Value → H) :
    ReturnsInHanded {} Try.checked os 6 .any (Rows.wordDividesSpec.pre6 enc Try.prog Try.f6 Rows.wordDividesRow.domain false) (Rows.wordDividesSpec.post enc Try.prog Try.f6 false true false false) := by
  refine returnsInHanded_of_change (C := Try.checked) own started (by kernel_rfl) Try.func6
    (ChangeSpec.witness6 (enc := enc) (C := Try.checked) false ⟨#[], #[.int .i64 0, .int .u64 0, .int .i64 0], []⟩ 8 (by kernel_rfl) (by kernel_rfl) (by kernel_rfl) (by kernel_rfl)) ?_
  intro W base args ds gs before hval0 hW hcnd _
  have hval : ∀ (j : Nat) t v, Try.f6.params[j]? = some t → args[j]? = some v → Value.okWide Try.prog W .any base t v := hval0
  have hW' := hW
  obtain ⟨p, q, hA0, hV, rfl, hfz, hnd⟩ := hW
  have hA : DataW.TrodAll enc Try.prog W 0 (fun _ => true) true Try.f6.params.toList args.toList ds p := hA0
  rw [Try.params6] at hA hval
  obtain ⟨v0, vs0, d0, ds0, p0, q0, hargs, rfl, rfl, h0, r0⟩ := trodAll_cons hA
  obtain ⟨v1, vs1, d1, ds1, p1, q1, rfl, rfl, rfl, h1, r1⟩ := trodAll_cons r0
  obtain ⟨v2, vs2, d2, ds2, p2, q2, rfl, rfl, rfl, h2, r2⟩ := trodAll_cons r1
  obtain ⟨rfl, rfl, rfl⟩ := trodAll_nil r2
  obtain rfl : args = #[v0, v1, v2] := by cases args; simp_all
  obtain ⟨rfl, rfl⟩ := trodVars_none hV
  obtain ⟨a0, rfl, rfl, rfl, w0⟩ := open_int Try.underlying2 (hval 0 2 v0 rfl rfl) h0
  obtain ⟨a1, rfl, rfl, rfl, w1⟩ := open_int Try.underlying26 (hval 1 26 v1 rfl rfl) h1
  obtain ⟨a2, rfl, rfl, rfl, w2⟩ := open_int Try.underlying2 (hval 2 2 v2 rfl rfl) h2
  clear hA0 hval0
  simp only [List.append_nil] at hW'
  refine (walk a0 a1 a2 w0 w1 w2 W).mono fun e W' ⟨he, hg⟩ => ?_
  subst he
  exact ⟨_, rfl, post_of_same (pa := []) (pv := []) hW' (fun _ _ _ => (trodAll_cons_mk (shut_bool Try.underlying4 _) trodAll_mk0)) (fun sp _ => (trodAll_cons_mk (shut_int Try.underlying2 w0) (trodAll_cons_mk (shut_int Try.underlying26 w1) (trodAll_cons_mk (shut_int Try.underlying2 w2) trodAll_mk0)))) (fun _ _ => rfl) rfl
    (hg.frame _) hg.2.1 (ok_one (by kernel_rfl) rfl (okWide_bool_mk Try.underlying4 _))⟩

theorem over : Rows.wordDividesRow.holds Try.pinned (OpenSpec.ofChange Rows.wordDividesSpec) :=
  OpenClaim.holds_of_wide 6 Try.f6 rfl rfl rfl rfl rfl rfl rfl ⟨rfl, rfl, rfl, rfl, rfl⟩ rfl rfl rfl rfl rfl (by kernel_rfl) Try.func6 (by kernel_rfl)
    (of_decide_eq_true (by kernel_rfl)) (by unfold Func.isWrapper; first | (rw [if_pos (by decide +kernel)]; kernel_rfl) | (rw [if_neg (by decide +kernel)]; exact ⟨rfl, rfl⟩))
    (fun os started H enc _ => lifted os started H enc)

/-- ████ THE STATEMENT ████ -/
theorem proved : Rows.WordDividesSaid :=
  over
end Go.Proofs.Ytjlhiagkkpjehac.wordDivides
namespace Go.Proofs.Ytjlhiagkkpjehac
theorem wordDivides_holds : Rows.WordDividesSaid := wordDivides.proved
#print axioms wordDivides_holds
end Go.Proofs.Ytjlhiagkkpjehac
