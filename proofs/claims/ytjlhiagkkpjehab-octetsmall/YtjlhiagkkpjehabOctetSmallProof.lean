/- OctetSmall answers true for every word x and every k: Zig(x) is below 2^k just for the x from -2^(k - 1) to 2^(k - 1) - 1 (k from 1 to 63), and Size counts groups of seven bits. No condition beside the given row's own. The frame round the walk was written by the kit's proof-skeleton; the walk is ours. -/
import Derived.Test.YtjlhiagkkpjehabRows
import Derived.WalkKit
import Derived.ProofKit
import Derived.OpenShut
import Derived.ShutString
import Derived.Test.YtjlhiagkkpjehabWrap
import Derived.Test.YtjlhiagkkpjehabBits
import Derived.Test.YtjlhiagkkpjehabSize
import Derived.WalkSpells
import Derived.WalkLawsBesides
namespace Go.Proofs.Ytjlhiagkkpjehab.octetSmall
open Go.ChangeShapes Go.WideShapes Go.ChangeAt Go.RowKit
open Go.ChangeMaps (open_string shut_string)
open wrapped octet
set_option linter.unusedVariables false      -- a walk need not use every 'w<i>' (that an integer argument fits its kind)

theorem own : ownKnob Try.prog.godebug = none := by kernel_rfl

theorem pos2' (n : Nat) : (0 : Int) < 2 ^ n := Int.pow_pos (by decide)
theorem zig_m1 (w : World) : Calls Try.prog 11 #[.int .i64 (-1)] w fun e w' => e = .returned (.int .u64 1) ∧ w' = w := zig_any (-1) (by decide) (by decide) w
theorem zig_1 (w : World) : Calls Try.prog 11 #[.int .i64 1] w fun e w' => e = .returned (.int .u64 2) ∧ w' = w := zig_any 1 (by decide) (by decide) w

/-! ### STEP 1: THE WALK: the Go text returns true. 'Grown w w'': the world has at most new blocks (Derived/RowKit3.lean). Part the cases AHEAD of 'go_enter' where a test parts the walk; take each callee by a contract of your own. -/
set_option maxRecDepth 100000 in
set_option maxHeartbeats 1000000 in
theorem walk (a0 : Int) (a1 : Int) (w0 : (Lit.int .i64 a0).wf = true) (w1 : (Lit.int .i64 a1).wf = true) (w : World) :
    Calls Try.prog 4 #[.int .i64 a0, .int .i64 a1] w fun e w' => e = .returned (.bool true) ∧ Grown w w' := by
  obtain ⟨la, ha⟩ := wf_bounds w0
  by_cases hk : a1 < 1 ∨ 63 < a1
  · rcases hk with hk | hk
    · go_enter Try.func4, Try.ntmps4
      go_wp2_with (go_at_call 11; first | (with_reducible refine (zig_m1 _).mono ?_; rintro e w' ⟨rfl, rfl⟩) | (with_reducible refine (zig_1 _).mono ?_; rintro e w' ⟨rfl, rfl⟩))
      go_ret
      exact ⟨rfl, Grown.refl _⟩
    · have hk2 : 1 ≤ a1 := by omega
      go_enter Try.func4, Try.ntmps4
      go_wp2_with (go_at_call 11; first | (with_reducible refine (zig_m1 _).mono ?_; rintro e w' ⟨rfl, rfl⟩) | (with_reducible refine (zig_1 _).mono ?_; rintro e w' ⟨rfl, rfl⟩))
      go_ret
      exact ⟨rfl, Grown.refl _⟩
  · have k1 : 1 ≤ a1 := by omega
    have k2 : a1 ≤ 63 := by omega
    clear hk w1
    obtain ⟨hz0, hz1⟩ := zg_bd a0 la ha
    have hzg : Hid (zg a0 = if a0 < 0 then -2 * a0 - 1 else 2 * a0) := rfl
    have cz := zig_any a0 la ha
    obtain ⟨u, hu⟩ := Int.eq_ofNat_of_zero_le hz0
    rw [hu] at hz0 hz1 hzg cz
    clear hu
    have hun : u < 18446744073709551616 := by omega
    clear hz0 hz1
    obtain ⟨P, hP0⟩ : ∃ P : Int, Hid (2 ^ (a1.toNat - 1) = P) := ⟨_, rfl⟩
    have hP1 : 1 ≤ P := by
      have := pos2' (a1.toNat - 1)
      rw [hP0.out] at this
      omega
    have hP2 : P ≤ 4611686018427387904 := by
      have h2 : (2 : Nat) ^ (a1.toNat - 1) ≤ 2 ^ 62 := Nat.pow_le_pow_right (by decide) (by omega)
      have h3 : ((2 ^ (a1.toNat - 1) : Nat) : Int) ≤ ((2 ^ 62 : Nat) : Int) := Int.ofNat_le.2 h2
      have h4 : (2 : Int) ^ (a1.toNat - 1) ≤ 4611686018427387904 := by simpa [Int.natCast_pow] using h3
      rw [hP0.out] at h4
      exact h4
    have hP3 : (2 : Int) ^ a1.toNat = 2 * P := by
      have e : a1.toNat = (a1.toNat - 1) + 1 := by omega
      rw [e, Int.pow_succ, ← hP0.out]; exact Int.mul_comm _ _
    have hP4 : wrap64 (-2 ^ (a1.toNat - 1)) = -P := by rw [hP0.out]; exact wrap64_id _ (by omega) (by omega)
    clear hP0
    have cs := size_any u hun
    have hsb := szN_bd u hun
    obtain ⟨sz, hsz⟩ : ∃ sz, Hid (szN u = sz) := ⟨_, rfl⟩
    rw [hsz.out] at cs hsb
    by_cases hin : -P ≤ a0 ∧ a0 ≤ P - 1
    · obtain ⟨i1, i2⟩ := hin
      have i3 : a0 ≤ -(-P + 1) := by omega
      have i4 : (u : Int) < 2 * P := by have := hzg.out; split at this <;> omega
      go_enter Try.func4, Try.ntmps4
      go_wp2_with (go_at_call 11; with_reducible refine (cz _).mono ?_; rintro e w' ⟨rfl, rfl⟩)
      go_loop [8, 9] (fun n v => ∃ (N V : Nat), V < 18446744073709551616 ∧ n = .int .i64 N ∧ v = .int .u64 V ∧ N ≤ 10 ∧ Hid (N + szN V = sz + 1)) (fun _ v => (intOf v).toNat)
      case atStart => exact ⟨1, u, hun, rfl, rfl, by omega, by show 1 + szN u = sz + 1; rw [hsz.out]; omega⟩
      case round =>
        obtain ⟨N, V, hV, rfl, rfl, hN, hNV⟩ := hrel
        by_cases hc : 128 ≤ V
        · have hst := szN_step V hc hV
          have hb2 := szN_bd (V / 128) (by omega)
          have hN2 : N + 1 + szN (V / 128) = sz + 1 := by have := hNV.out; omega
          have hN3 : N + 1 ≤ 10 := by omega
          have HN2 : Hid (N + 1 + szN (V / 128) = sz + 1) := hN2
          clear hst hb2 hN2
          go_wp2
          go_round
          case rel => exact ⟨N + 1, V / 128, by omega, by go_num, by go_num, hN3, HN2⟩
          case measure => simp [intOf]; omega
        · have h1 := szN_small V (by omega)
          have hNs : N = sz := by have := hNV.out; omega
          subst hNs
          clear h1 hNV
          go_wp2_with (go_at_call 8; with_reducible refine (cs _).mono ?_; rintro e w' ⟨rfl, rfl⟩)
          go_ret
          exact ⟨rfl, Grown.refl _⟩
    · have i4 : ¬ (u : Int) < 2 * P := by have := hzg.out; split at this <;> omega
      have i5 : decide ((u : Int) < 2 * P) = false := by simpa using i4
      by_cases i1 : -P ≤ a0
      · have i3 : ¬ a0 ≤ -(-P + 1) := by omega
        go_enter Try.func4, Try.ntmps4
        go_wp2_with (go_at_call 11; with_reducible refine (cz _).mono ?_; rintro e w' ⟨rfl, rfl⟩)
        go_loop [8, 9] (fun n v => ∃ (N V : Nat), V < 18446744073709551616 ∧ n = .int .i64 N ∧ v = .int .u64 V ∧ N ≤ 10 ∧ Hid (N + szN V = sz + 1)) (fun _ v => (intOf v).toNat)
        case atStart => exact ⟨1, u, hun, rfl, rfl, by omega, by show 1 + szN u = sz + 1; rw [hsz.out]; omega⟩
        case round =>
          obtain ⟨N, V, hV, rfl, rfl, hN, hNV⟩ := hrel
          by_cases hc : 128 ≤ V
          · have hst := szN_step V hc hV
            have hb2 := szN_bd (V / 128) (by omega)
            have hN2 : N + 1 + szN (V / 128) = sz + 1 := by have := hNV.out; omega
            have hN3 : N + 1 ≤ 10 := by omega
            have HN2 : Hid (N + 1 + szN (V / 128) = sz + 1) := hN2
            clear hst hb2 hN2
            go_wp2
            go_round
            case rel => exact ⟨N + 1, V / 128, by omega, by go_num, by go_num, hN3, HN2⟩
            case measure => simp [intOf]; omega
          · have h1 := szN_small V (by omega)
            have hNs : N = sz := by have := hNV.out; omega
            subst hNs
            clear h1 hNV
            go_wp2_with (go_at_call 8; with_reducible refine (cs _).mono ?_; rintro e w' ⟨rfl, rfl⟩)
            go_ret
            exact ⟨rfl, Grown.refl _⟩
      · go_enter Try.func4, Try.ntmps4
        go_wp2_with (go_at_call 11; with_reducible refine (cz _).mono ?_; rintro e w' ⟨rfl, rfl⟩)
        go_loop [8, 9] (fun n v => ∃ (N V : Nat), V < 18446744073709551616 ∧ n = .int .i64 N ∧ v = .int .u64 V ∧ N ≤ 10 ∧ Hid (N + szN V = sz + 1)) (fun _ v => (intOf v).toNat)
        case atStart => exact ⟨1, u, hun, rfl, rfl, by omega, by show 1 + szN u = sz + 1; rw [hsz.out]; omega⟩
        case round =>
          obtain ⟨N, V, hV, rfl, rfl, hN, hNV⟩ := hrel
          by_cases hc : 128 ≤ V
          · have hst := szN_step V hc hV
            have hb2 := szN_bd (V / 128) (by omega)
            have hN2 : N + 1 + szN (V / 128) = sz + 1 := by have := hNV.out; omega
            have hN3 : N + 1 ≤ 10 := by omega
            have HN2 : Hid (N + 1 + szN (V / 128) = sz + 1) := hN2
            clear hst hb2 hN2
            go_wp2
            go_round
            case rel => exact ⟨N + 1, V / 128, by omega, by go_num, by go_num, hN3, HN2⟩
            case measure => simp [intOf]; omega
          · have h1 := szN_small V (by omega)
            have hNs : N = sz := by have := hNV.out; omega
            subst hNs
            clear h1 hNV
            go_wp2_with (go_at_call 8; with_reducible refine (cs _).mono ?_; rintro e w' ⟨rfl, rfl⟩)
            go_ret
            exact ⟨rfl, Grown.refl _⟩

/-! ### THE ROW's STEP: WRITTEN OUT: LEAVE IT -/
set_option maxRecDepth 100000 in
theorem lifted (os : Os) (started : os.Started) (H : Type) (enc : TypeId × Value → H) :
    ReturnsInHanded {} Try.checked os 4 .any (Rows.octetSmallSpec.pre6 enc Try.prog Try.f4 Rows.octetSmallRow.domain false) (Rows.octetSmallSpec.post enc Try.prog Try.f4 false true false false) := by
  refine returnsInHanded_of_change (C := Try.checked) own started (by kernel_rfl) Try.func4
    (ChangeSpec.witness6 (enc := enc) (C := Try.checked) false ⟨#[], #[.int .i64 0, .int .i64 0], []⟩ 8 (by kernel_rfl) (by kernel_rfl) (by kernel_rfl) (by kernel_rfl)) ?_
  intro W base args ds gs before hval0 hW hcnd _
  have hval : ∀ (j : Nat) t v, Try.f4.params[j]? = some t → args[j]? = some v → Value.okWide Try.prog W .any base t v := hval0
  have hW' := hW
  obtain ⟨p, q, hA0, hV, rfl, hfz, hnd⟩ := hW
  have hA : DataW.TrodAll enc Try.prog W 0 (fun _ => true) true Try.f4.params.toList args.toList ds p := hA0
  rw [Try.params4] at hA hval
  obtain ⟨v0, vs0, d0, ds0, p0, q0, hargs, rfl, rfl, h0, r0⟩ := trodAll_cons hA
  obtain ⟨v1, vs1, d1, ds1, p1, q1, rfl, rfl, rfl, h1, r1⟩ := trodAll_cons r0
  obtain ⟨rfl, rfl, rfl⟩ := trodAll_nil r1
  obtain rfl : args = #[v0, v1] := by cases args; simp_all
  obtain ⟨rfl, rfl⟩ := trodVars_none hV
  obtain ⟨a0, rfl, rfl, rfl, w0⟩ := open_int Try.underlying2 (hval 0 2 v0 rfl rfl) h0
  obtain ⟨a1, rfl, rfl, rfl, w1⟩ := open_int Try.underlying3 (hval 1 3 v1 rfl rfl) h1
  clear hA0 hval0
  simp only [List.append_nil] at hW'
  refine (walk a0 a1 w0 w1 W).mono fun e W' ⟨he, hg⟩ => ?_
  subst he
  exact ⟨_, rfl, post_of_same (pa := []) (pv := []) hW' (fun _ _ _ => (trodAll_cons_mk (shut_bool Try.underlying4 _) trodAll_mk0)) (fun sp _ => (trodAll_cons_mk (shut_int Try.underlying2 w0) (trodAll_cons_mk (shut_int Try.underlying3 w1) trodAll_mk0))) (fun _ _ => rfl) rfl
    (hg.frame _) hg.2.1 (ok_one (by kernel_rfl) rfl (okWide_bool_mk Try.underlying4 _))⟩

theorem over : Rows.octetSmallRow.holds Try.pinned (OpenSpec.ofChange Rows.octetSmallSpec) :=
  OpenClaim.holds_of_wide 4 Try.f4 rfl rfl rfl rfl rfl rfl rfl ⟨rfl, rfl, rfl, rfl, rfl⟩ rfl rfl rfl rfl rfl (by kernel_rfl) Try.func4 (by kernel_rfl)
    (of_decide_eq_true (by kernel_rfl)) (by unfold Func.isWrapper; first | (rw [if_pos (by decide +kernel)]; kernel_rfl) | (rw [if_neg (by decide +kernel)]; exact ⟨rfl, rfl⟩))
    (fun os started H enc _ => lifted os started H enc)

/-- ████ THE STATEMENT ████ -/
theorem proved : Rows.OctetSmallSaid :=
  over
end Go.Proofs.Ytjlhiagkkpjehab.octetSmall
namespace Go.Proofs.Ytjlhiagkkpjehab
theorem octetSmall_holds : Rows.OctetSmallSaid := octetSmall.proved
#print axioms octetSmall_holds
end Go.Proofs.Ytjlhiagkkpjehab
