/- WordTurns answers true for all words a and b: rotl by b and then by neg b is a, flip and not twice are a, ones of a and of not a are 64 together, a turn keeps how many there are, and lead of a is trail of flip a. No condition beside the given row's own. The frame round the walk was written by the kit's proof-skeleton; the walk is ours. -/
import Derived.Test.YtjlhiagkkpjehadRows
import Derived.WalkKit
import Derived.ProofKit
import Derived.OpenShut
import Derived.ShutString
import Derived.Test.YtjlhiagkkpjehadWrap
import Derived.Test.YtjlhiagkkpjehadBits
import Derived.Test.YtjlhiagkkpjehadWord
import Derived.Test.YtjlhiagkkpjehadDid2
import Derived.WalkSpells
import Derived.WalkLawsBesides
namespace Go.Proofs.Ytjlhiagkkpjehad.wordTurns
open Go.ChangeShapes Go.WideShapes Go.ChangeAt Go.RowKit
open Go.ChangeMaps (open_string shut_string)
open wrapped word
set_option linter.unusedVariables false      -- a walk need not use every 'w<i>' (that an integer argument fits its kind)

theorem own : ownKnob Try.prog.godebug = none := by kernel_rfl

theorem lead_ex (a : Int) : ∃ n : Nat, IsLead a n := by
  have h : ∀ m : Nat, m ≤ 64 → (∃ n, IsLead a n) ∨ ∀ j, j < m → bitOf a (63 - j) = 0 := by
    intro m
    induction m with
    | zero => intro _; exact .inr fun j h => absurd h (by omega)
    | succ m ih =>
      intro hm
      rcases ih (by omega) with h | h
      · exact .inl h
      · have hb := bitOf_01 a (63 - m)
        by_cases h1 : bitOf a (63 - m) = 1
        · exact .inl ⟨m, by omega, h, fun _ => h1⟩
        · refine .inr fun j hj => ?_
          by_cases hjm : j = m
          · subst hjm; omega
          · exact h j (by omega)
  rcases h 64 (Nat.le_refl _) with h | h
  · exact h
  · exact ⟨64, Nat.le_refl _, h, fun h => absurd h (by omega)⟩

/-! ### STEP 1: THE WALK: the Go text returns true. 'Grown w w'': the world has at most new blocks (Derived/RowKit3.lean). Part the cases AHEAD of 'go_enter' where a test parts the walk; take each callee by a contract of your own. -/
set_option maxRecDepth 100000 in
set_option maxHeartbeats 1000000 in
theorem walk (a0 : Int) (a1 : Int) (w0 : (Lit.int .i64 a0).wf = true) (w1 : (Lit.int .i64 a1).wf = true) (w : World) :
    Calls Try.prog 6 #[.int .i64 a0, .int .i64 a1] w fun e w' => e = .returned (.bool true) ∧ Grown w w' := by
  obtain ⟨la, ha⟩ := wf_bounds w0
  obtain ⟨lb, hb⟩ := wf_bounds w1
  have hx0 : 0 ≤ a0 % 18446744073709551616 := by omega
  have hx1 : a0 % 18446744073709551616 < 18446744073709551616 := by omega
  obtain ⟨n, hn⟩ : ∃ n, Hid (wrap64 (-a1) = n) := ⟨_, rfl⟩
  obtain ⟨t, ht⟩ : ∃ t, Hid (wrap64 (rotN (a0 % 18446744073709551616) (a1 % 64).toNat) = t) := ⟨_, rfl⟩
  have hback : Hid (wrap64 (rotN (t % 18446744073709551616) (n % 64).toNat) = a0) := by
    show wrap64 (rotN (t % 18446744073709551616) (n % 64).toNat) = a0
    rw [← ht.out, ← hn.out]; exact rotl_back a0 a1 la ha
  obtain ⟨f, hf⟩ : ∃ f, Hid (wrap64 (flipN a0 64) = f) := ⟨_, rfl⟩
  have hff : Hid (wrap64 (flipN f 64) = a0) := by show wrap64 (flipN f 64) = a0; rw [← hf.out]; exact flip_flip a0 la ha
  have hc : Hid (bits BinOp.xor IntKind.i64 (-1) a0 = -1 - a0) := xor_not a0 la ha
  have hcc : Hid (bits BinOp.xor IntKind.i64 (-1) (-1 - a0) = a0) := by
    show bits BinOp.xor IntKind.i64 (-1) (-1 - a0) = a0
    rw [xor_not _ (by omega) (by omega)]; omega
  obtain ⟨c, hcv⟩ : ∃ c, Hid (-1 - a0 = c) := ⟨_, rfl⟩
  have hc2 : Hid (bits BinOp.xor IntKind.i64 (-1) a0 = c) := by rw [← hcv.out]; exact hc
  have hcc2 : Hid (bits BinOp.xor IntKind.i64 (-1) c = a0) := by rw [← hcv.out]; exact hcc
  obtain ⟨o, ho⟩ : ∃ o, Hid (onesN a0 64 = o) := ⟨_, rfl⟩
  have hq : Hid (onesN t 64 = o) := by
    show onesN t 64 = o
    rw [← ht.out, ones_wrap, ones_rot _ _ hx0 hx1 (by omega), ones_mod]; exact ho.out
  have hob := onesN_bd a0 64
  rw [ho.out] at hob
  have hp : Hid (onesN c 64 = 64 - o) := by
    show onesN c 64 = 64 - o
    have := ones_not a0 64
    rw [hcv.out, ho.out] at this
    omega
  obtain ⟨p, hpv⟩ : ∃ p, Hid (64 - o = p) := ⟨_, rfl⟩
  have hp2 : Hid (onesN c 64 = p) := by rw [← hpv.out]; exact hp
  have hop : (o + p == 64) = true := by have := hpv.out; simp; omega
  have ob1 : 0 ≤ o := hob.1
  have ob2 : o ≤ 64 := hob.2
  have pb1 : 0 ≤ p := by have := hpv.out; omega
  have pb2 : p ≤ 64 := by have := hpv.out; omega
  obtain ⟨l, hl⟩ := lead_ex a0
  have hl1 : Hid (IsLead a0 l) := hl
  have hl2 : Hid (IsLead (wrap64 (flipN f 64)) l) := by show IsLead (wrap64 (flipN f 64)) l; rw [hff.out]; exact hl
  have hl3 : l ≤ 64 := hl.1
  clear hl hp hc hcc hcv hpv hob hx0 hx1
  go_enter Try.func6, Try.ntmps6
  go_wp2_with (first | (go_at_call 9; refine (speaks_any _).mono ?_; rintro e w' ⟨rfl, rfl⟩) | (go_at_call 10; first | (with_reducible refine (did_neg_as _ _ _ _ hn).mono ?_; rintro e w' ⟨rfl, rfl⟩) | (with_reducible refine (did_rotl_as _ _ _ _ ht).mono ?_; rintro e w' ⟨rfl, rfl⟩) | (with_reducible refine (did_rotl_as _ _ _ _ hback).mono ?_; rintro e w' ⟨rfl, rfl⟩) | (with_reducible refine (did_flip_as _ _ _ _ hf).mono ?_; rintro e w' ⟨rfl, rfl⟩) | (with_reducible refine (did_flip_as _ _ _ _ hff).mono ?_; rintro e w' ⟨rfl, rfl⟩) | (with_reducible refine (did_not_as _ _ _ _ hc2).mono ?_; rintro e w' ⟨rfl, rfl⟩) | (with_reducible refine (did_not_as _ _ _ _ hcc2).mono ?_; rintro e w' ⟨rfl, rfl⟩) | (with_reducible refine (did_ones_as _ _ _ _ ho).mono ?_; rintro e w' ⟨rfl, rfl⟩) | (with_reducible refine (did_ones_as _ _ _ _ hp2).mono ?_; rintro e w' ⟨rfl, rfl⟩) | (with_reducible refine (did_ones_as _ _ _ _ hq).mono ?_; rintro e w' ⟨rfl, rfl⟩) | (with_reducible refine (did_lead_as _ _ _ _ hl1).mono ?_; rintro e w' ⟨rfl, rfl⟩) | (with_reducible refine (did_trail_as _ _ _ _ hl2).mono ?_; rintro e w' ⟨rfl, rfl⟩)))
  go_ret
  exact ⟨rfl, Grown.refl _⟩

/-! ### THE ROW's STEP: WRITTEN OUT: LEAVE IT -/
set_option maxRecDepth 100000 in
theorem lifted (os : Os) (started : os.Started) (H : Type) (enc : TypeId × Value → H) :
    ReturnsInHanded {} Try.checked os 6 .any (Rows.wordTurnsSpec.pre6 enc Try.prog Try.f6 Rows.wordTurnsRow.domain false) (Rows.wordTurnsSpec.post enc Try.prog Try.f6 false true false false) := by
  refine returnsInHanded_of_change (C := Try.checked) own started (by kernel_rfl) Try.func6
    (ChangeSpec.witness6 (enc := enc) (C := Try.checked) false ⟨#[], #[.int .i64 0, .int .i64 0], []⟩ 8 (by kernel_rfl) (by kernel_rfl) (by kernel_rfl) (by kernel_rfl)) ?_
  intro W base args ds gs before hval0 hW hcnd _
  have hval : ∀ (j : Nat) t v, Try.f6.params[j]? = some t → args[j]? = some v → Value.okWide Try.prog W .any base t v := hval0
  have hW' := hW
  obtain ⟨p, q, hA0, hV, rfl, hfz, hnd⟩ := hW
  have hA : DataW.TrodAll enc Try.prog W 0 (fun _ => true) true Try.f6.params.toList args.toList ds p := hA0
  rw [Try.params6] at hA hval
  obtain ⟨v0, vs0, d0, ds0, p0, q0, hargs, rfl, rfl, h0, r0⟩ := trodAll_cons hA
  obtain ⟨v1, vs1, d1, ds1, p1, q1, rfl, rfl, rfl, h1, r1⟩ := trodAll_cons r0
  obtain ⟨rfl, rfl, rfl⟩ := trodAll_nil r1
  obtain rfl : args = #[v0, v1] := by cases args; simp_all
  obtain ⟨rfl, rfl⟩ := trodVars_none hV
  obtain ⟨a0, rfl, rfl, rfl, w0⟩ := open_int Try.underlying2 (hval 0 2 v0 rfl rfl) h0
  obtain ⟨a1, rfl, rfl, rfl, w1⟩ := open_int Try.underlying2 (hval 1 2 v1 rfl rfl) h1
  clear hA0 hval0
  simp only [List.append_nil] at hW'
  refine (walk a0 a1 w0 w1 W).mono fun e W' ⟨he, hg⟩ => ?_
  subst he
  exact ⟨_, rfl, post_of_same (pa := []) (pv := []) hW' (fun _ _ _ => (trodAll_cons_mk (shut_bool Try.underlying4 _) trodAll_mk0)) (fun sp _ => (trodAll_cons_mk (shut_int Try.underlying2 w0) (trodAll_cons_mk (shut_int Try.underlying2 w1) trodAll_mk0))) (fun _ _ => rfl) rfl
    (hg.frame _) hg.2.1 (ok_one (by kernel_rfl) rfl (okWide_bool_mk Try.underlying4 _))⟩

theorem over : Rows.wordTurnsRow.holds Try.pinned (OpenSpec.ofChange Rows.wordTurnsSpec) :=
  OpenClaim.holds_of_wide 6 Try.f6 rfl rfl rfl rfl rfl rfl rfl ⟨rfl, rfl, rfl, rfl, rfl⟩ rfl rfl rfl rfl rfl (by kernel_rfl) Try.func6 (by kernel_rfl)
    (of_decide_eq_true (by kernel_rfl)) (by unfold Func.isWrapper; first | (rw [if_pos (by decide +kernel)]; kernel_rfl) | (rw [if_neg (by decide +kernel)]; exact ⟨rfl, rfl⟩))
    (fun os started H enc _ => lifted os started H enc)

/-- ████ THE STATEMENT ████ -/
theorem proved : Rows.WordTurnsSaid :=
  over
end Go.Proofs.Ytjlhiagkkpjehad.wordTurns
namespace Go.Proofs.Ytjlhiagkkpjehad
theorem wordTurns_holds : Rows.WordTurnsSaid := wordTurns.proved
#print axioms wordTurns_holds
end Go.Proofs.Ytjlhiagkkpjehad
