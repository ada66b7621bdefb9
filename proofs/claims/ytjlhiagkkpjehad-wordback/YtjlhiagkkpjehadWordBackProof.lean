/- WordBack answers true for all words a and b: high and mul are Wide's high word and low one, and Divide of the whole product by b, if b is not 0, is a and 0. No condition beside the given row's own. The frame round the walk was written by the kit's proof-skeleton; the walk is ours. -/
import Derived.Test.YtjlhiagkkpjehadRows
import Derived.WalkKit
import Derived.ProofKit
import Derived.OpenShut
import Derived.ShutString
import Derived.Test.YtjlhiagkkpjehadWrap
import Derived.Test.YtjlhiagkkpjehadBits
import Derived.Test.YtjlhiagkkpjehadWord
import Derived.Test.YtjlhiagkkpjehadDid
import Derived.Test.YtjlhiagkkpjehadMul
import Derived.Test.YtjlhiagkkpjehadDivide
import Derived.WalkSpells
import Derived.WalkLawsBesides
namespace Go.Proofs.Ytjlhiagkkpjehad.wordBack
open Go.ChangeShapes Go.WideShapes Go.ChangeAt Go.RowKit
open Go.ChangeMaps (open_string shut_string)
open wrapped word
set_option linter.unusedVariables false      -- a walk need not use every 'w<i>' (that an integer argument fits its kind)

theorem own : ownKnob Try.prog.godebug = none := by kernel_rfl

theorem grown_drewN (w : World) (n : Nat) : Grown w (w.drewN n) := by
  induction n with
  | zero => exact Grown.refl _
  | succ n ih => exact ih.drew
theorem did_high (a b x : Int) (w : World) (la : -9223372036854775808 ≤ a) (ha : a ≤ 9223372036854775807) (lb : -9223372036854775808 ≤ b) (hb : b ≤ 9223372036854775807) (he : Hid (a * b / 18446744073709551616 = x)) : Calls Try.prog 10 #[.int .i64 36, .int .i64 a, .int .i64 b] w fun e w' => e = .returned (.tuple #[.int .i64 x, .bool true]) ∧ w' = w := by
  have hap := high_op a b la ha lb hb w
  rw [he.out] at hap
  clear he
  go_enter Try.func10, Try.ntmps10
  go_wp2_with (go_at_call 12; refine hap.mono ?_; rintro e w' ⟨rfl, rfl⟩)
  go_ret2
  exact ⟨rfl, rfl⟩
theorem sg_neg (a : Int) (la : -9223372036854775808 ≤ a) (p : a < 0) : sg a.natAbs true = a := by
  rw [sg_true]
  obtain ⟨n, hn⟩ : ∃ n : Int, ((a.natAbs : Nat) : Int) = n := ⟨_, rfl⟩
  have h2 : n = -a := by omega
  rw [hn, h2]
  by_cases h : a = -9223372036854775808
  · subst h; decide +kernel
  · rw [wrap64_id (-a) (by omega) (by omega), wrap64_id (- -a) (by omega) (by omega)]; omega
theorem sg_pos (a : Int) (ha : a ≤ 9223372036854775807) (p : ¬ a < 0) : sg a.natAbs false = a := by
  rw [sg_false]
  obtain ⟨n, hn⟩ : ∃ n : Int, ((a.natAbs : Nat) : Int) = n := ⟨_, rfl⟩
  have h2 : n = a := by omega
  rw [hn, h2]
  exact wrap64_id a (by omega) (by omega)
set_option maxHeartbeats 1000000 in
theorem back (a b H : Int) (L : Nat) (la : -9223372036854775808 ≤ a) (ha : a ≤ 9223372036854775807) (lb : -9223372036854775808 ≤ b) (hb : b ≤ 9223372036854775807) (hb0 : b ≠ 0)
    (hH : a * b / 18446744073709551616 = H) (hL : a * b % 18446744073709551616 = (L : Int)) (w : World) :
    Calls Try.prog 16 #[.int .i64 H, .int .u64 L, .int .i64 b] w fun e w' => ∃ n, e = .returned (.tuple #[.int .i64 a, .int .i64 0, .int .i64 0]) ∧ w' = w.drewN n := by
  have hr := wide_range a b la ha lb hb
  rw [hH] at hr
  have hp : H * 18446744073709551616 + (L : Int) = a * b := by omega
  have hM : sz2 H L = a.natAbs * b.natAbs := by unfold sz2; rw [hp, Int.natAbs_mul]
  have hD : 0 < b.natAbs := by omega
  have c := divide_any H b L (a.natAbs * b.natAbs) b.natAbs (by omega) (by omega) (by omega) lb hb hb0 hM rfl w
  rw [Nat.mul_div_cancel _ hD, Nat.mul_mod_left] at c
  have hneg : (H < 0) ↔ a * b < 0 := by omega
  have hs : a = 0 ∨ ((decide (H < 0) != decide (b < 0)) = decide (a < 0)) := by
    by_cases ha0 : a = 0
    · exact .inl ha0
    · right
      have h1 : decide (H < 0) = decide (a * b < 0) := by simp [hneg]
      rw [h1]
      rcases Int.lt_or_gt_of_ne ha0 with p | p <;> rcases Int.lt_or_gt_of_ne hb0 with q | q
      · have := Int.mul_pos_of_neg_of_neg p q
        simp [p, q]; omega
      · have := Int.mul_neg_of_neg_of_pos p q
        simp [p, this]; omega
      · have := Int.mul_neg_of_pos_of_neg p q
        simp [q, this]; omega
      · have := Int.mul_pos p q
        have e1 : ¬ a * b < 0 := by omega
        have e2 : ¬ b < 0 := by omega
        have e3 : ¬ a < 0 := by omega
        simp [e1, e2, e3]
  have hz : ∀ t : Bool, sg 0 t = 0 := by
    intro t
    cases t
    · rw [sg_false]; unfold wrap64; omega
    · rw [sg_true]; unfold wrap64; omega
  have hbig : dvBig (a.natAbs * b.natAbs) b.natAbs (decide (H < 0) != decide (b < 0)) = false := by
    unfold dvBig
    rw [Nat.mul_div_cancel _ hD]
    have k1 : ((a.natAbs : Nat) : Int) ≤ 9223372036854775808 := by omega
    rcases hs with h0 | h0
    · have k2 : ((a.natAbs : Nat) : Int) ≤ 9223372036854775807 := by omega
      cases (decide (H < 0) != decide (b < 0))
      · rw [sgok_false, decide_eq_true k2]; rfl
      · rw [sgok_true, decide_eq_true k1]; rfl
    · rw [h0]
      by_cases p : a < 0
      · rw [decide_eq_true p, sgok_true, decide_eq_true k1]; rfl
      · have k2 : ((a.natAbs : Nat) : Int) ≤ 9223372036854775807 := by omega
        rw [decide_eq_false p, sgok_false, decide_eq_true k2]; rfl
  have hsg : sg a.natAbs (decide (H < 0) != decide (b < 0)) = a := by
    rcases hs with h0 | h0
    · subst h0; exact hz _
    · rw [h0]
      by_cases p : a < 0
      · rw [decide_eq_true p]; exact sg_neg a la p
      · rw [decide_eq_false p]; exact sg_pos a ha p
  have e1 : (if dvBig (a.natAbs * b.natAbs) b.natAbs (decide (H < 0) != decide (b < 0)) = true then (0 : Int) else sg a.natAbs (decide (H < 0) != decide (b < 0))) = a := by rw [hbig, if_neg Bool.false_ne_true, hsg]
  have e2 : (if dvBig (a.natAbs * b.natAbs) b.natAbs (decide (H < 0) != decide (b < 0)) = true then (0 : Int) else sg 0 (decide (H < 0))) = 0 := by rw [hbig, if_neg Bool.false_ne_true, hz]
  have e3 : (if dvBig (a.natAbs * b.natAbs) b.natAbs (decide (H < 0) != decide (b < 0)) = true then (24 : Int) else 0) = 0 := by rw [hbig, if_neg Bool.false_ne_true]
  rw [e1, e2, e3] at c
  exact c

/-! ### STEP 1: THE WALK: the Go text returns true. 'Grown w w'': the world has at most new blocks (Derived/RowKit3.lean). Part the cases AHEAD of 'go_enter' where a test parts the walk; take each callee by a contract of your own. -/
set_option maxRecDepth 100000 in
set_option maxHeartbeats 1000000 in
theorem walk (a0 : Int) (a1 : Int) (w0 : (Lit.int .i64 a0).wf = true) (w1 : (Lit.int .i64 a1).wf = true) (w : World) :
    Calls Try.prog 8 #[.int .i64 a0, .int .i64 a1] w fun e w' => e = .returned (.bool true) ∧ Grown w w' := by
  obtain ⟨la, ha⟩ := wf_bounds w0
  obtain ⟨lb, hb⟩ := wf_bounds w1
  have c1 := wide_any a0 a1 la ha lb hb
  obtain ⟨H, hH⟩ : ∃ H, Hid (a0 * a1 / 18446744073709551616 = H) := ⟨_, rfl⟩
  obtain ⟨L, hL⟩ : ∃ L : Nat, Hid (a0 * a1 % 18446744073709551616 = (L : Int)) := ⟨(a0 * a1 % 18446744073709551616).toNat, by show a0 * a1 % 18446744073709551616 = _; omega⟩
  have hLl : L < 18446744073709551616 := by have := hL.out; omega
  rw [hH.out, hL.out] at c1
  have hm : (IntKind.u64.wrap (wrap64 (a0 * a1)) != (L : Int)) = false := by
    have : IntKind.u64.wrap (wrap64 (a0 * a1)) = (L : Int) := by rw [IntKind.wrap_u64, ← hL.out]; unfold wrap64; omega
    simpa using this
  have c2 := did_high a0 a1 H
  by_cases hz : a1 = 0
  · subst hz
    have h00 : wrap64 0 = 0 := by unfold wrap64; omega
    have hL0 : L = 0 := by have := hL.out; rw [Int.mul_zero] at this; omega
    have hH0 : H = 0 := by have := hH.out; rw [Int.mul_zero] at this; omega
    subst hL0 hH0
    have c3 : ∀ w : World, Calls Try.prog 16 #[.int .i64 0, .int .u64 0, .int .i64 0] w fun e w' => e = .returned (.tuple #[.int .i64 0, .int .i64 0, .int .i64 20]) ∧ w' = w := divide_zero 0 0
    go_enter Try.func8, Try.ntmps8
    go_wp2_with (first | (go_at_call 9; refine (speaks_any _).mono ?_; rintro e w' ⟨rfl, rfl⟩) | (go_at_call 15; with_reducible refine (c1 _).mono ?_; rintro e w' ⟨rfl, rfl⟩) | (go_at_call 10; first | (with_reducible refine (c2 _ la ha lb hb hH).mono ?_; rintro e w' ⟨rfl, rfl⟩) | (with_reducible refine (did_mul _ _ _).mono ?_; rintro e w' ⟨rfl, rfl⟩)) | (go_at_call 16; with_reducible refine (c3 _).mono ?_; rintro e w' ⟨rfl, rfl⟩))
    go_ret
    exact ⟨rfl, Grown.refl _⟩
  · have hz1 : (a1 == 0) = false := by simpa using hz
    have c3 := back a0 a1 H L la ha lb hb hz hH.out hL.out
    go_enter Try.func8, Try.ntmps8
    go_wp2_with (first | (go_at_call 9; refine (speaks_any _).mono ?_; rintro e w' ⟨rfl, rfl⟩) | (go_at_call 15; with_reducible refine (c1 _).mono ?_; rintro e w' ⟨rfl, rfl⟩) | (go_at_call 10; first | (with_reducible refine (c2 _ la ha lb hb hH).mono ?_; rintro e w' ⟨rfl, rfl⟩) | (with_reducible refine (did_mul _ _ _).mono ?_; rintro e w' ⟨rfl, rfl⟩)) | (go_at_call 16; with_reducible refine (c3 _).mono ?_; rintro e w6 ⟨n6, rfl, hw6⟩; subst hw6))
    go_ret
    exact ⟨rfl, grown_drewN _ n6⟩

/-! ### THE ROW's STEP: WRITTEN OUT: LEAVE IT -/
set_option maxRecDepth 100000 in
theorem lifted (os : Os) (started : os.Started) (H : Type) (enc : TypeId × Value → H) :
    ReturnsInHanded {} Try.checked os 8 .any (Rows.wordBackSpec.pre6 enc Try.prog Try.f8 Rows.wordBackRow.domain false) (Rows.wordBackSpec.post enc Try.prog Try.f8 false true false false) := by
  refine returnsInHanded_of_change (C := Try.checked) own started (by kernel_rfl) Try.func8
    (ChangeSpec.witness6 (enc := enc) (C := Try.checked) false ⟨#[], #[.int .i64 0, .int .i64 0], []⟩ 8 (by kernel_rfl) (by kernel_rfl) (by kernel_rfl) (by kernel_rfl)) ?_
  intro W base args ds gs before hval0 hW hcnd _
  have hval : ∀ (j : Nat) t v, Try.f8.params[j]? = some t → args[j]? = some v → Value.okWide Try.prog W .any base t v := hval0
  have hW' := hW
  obtain ⟨p, q, hA0, hV, rfl, hfz, hnd⟩ := hW
  have hA : DataW.TrodAll enc Try.prog W 0 (fun _ => true) true Try.f8.params.toList args.toList ds p := hA0
  rw [Try.params8] at hA hval
  obtain ⟨v0, vs0, d0, ds0, p0, q0, hargs, rfl, rfl, h0, r0⟩ := trodAll_cons hA
  obtain ⟨v1, vs1, d1, ds1, p1, q1, rfl, rfl, rfl, h1, r1⟩ := trodAll_cons r0
  obtain ⟨rfl, rfl, rfl⟩ := trodAll_nil r1
  obtain rfl : args = #[v0, v1] := by cases args; simp_all
  obtain ⟨rfl, rfl⟩ := trodVars_none hV
  obtain ⟨a0, rfl, rfl, rfl, w0⟩ := open_int Try.underlying2 (hval 0 2 v0 rfl rfl) h0
  obtain ⟨a1, rfl, rfl, rfl, w1⟩ := open_int Try.underlying2 (hval 1 2 v1 rfl rfl) h1
  clear hA0 hval0
  simp only [List.append_nil] at hW'
  refine (walk a0 a1 w0 w1 W).mono fun e W' ⟨he, hg⟩ => ?_
  subst he
  exact ⟨_, rfl, post_of_same (pa := []) (pv := []) hW' (fun _ _ _ => (trodAll_cons_mk (shut_bool Try.underlying4 _) trodAll_mk0)) (fun sp _ => (trodAll_cons_mk (shut_int Try.underlying2 w0) (trodAll_cons_mk (shut_int Try.underlying2 w1) trodAll_mk0))) (fun _ _ => rfl) rfl
    (hg.frame _) hg.2.1 (ok_one (by kernel_rfl) rfl (okWide_bool_mk Try.underlying4 _))⟩

theorem over : Rows.wordBackRow.holds Try.pinned (OpenSpec.ofChange Rows.wordBackSpec) :=
  OpenClaim.holds_of_wide 8 Try.f8 rfl rfl rfl rfl rfl rfl rfl ⟨rfl, rfl, rfl, rfl, rfl⟩ rfl rfl rfl rfl rfl (by kernel_rfl) Try.func8 (by kernel_rfl)
    (of_decide_eq_true (by kernel_rfl)) (by unfold Func.isWrapper; first | (rw [if_pos (by decide +kernel)]; kernel_rfl) | (rw [if_neg (by decide +kernel)]; exact ⟨rfl, rfl⟩))
    (fun os started H enc _ => lifted os started H enc)

/-- ████ THE STATEMENT ████ -/
theorem proved : Rows.WordBackSaid :=
  over
end Go.Proofs.Ytjlhiagkkpjehad.wordBack
namespace Go.Proofs.Ytjlhiagkkpjehad
theorem wordBack_holds : Rows.WordBackSaid := wordBack.proved
#print axioms wordBack_holds
end Go.Proofs.Ytjlhiagkkpjehad
