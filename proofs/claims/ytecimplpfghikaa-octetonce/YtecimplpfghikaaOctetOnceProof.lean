/- OctetOnce answers true for every list of bytes b and every place at: what Get takes there is what Put writes of the number that it answers; beside an error it answers zeros. No condition beside the given row's own. The frame round the walk was written by the kit's proof-skeleton; the walk is ours. -/
import Derived.Test.YtecimplpfghikaaRows
import Derived.WalkKit
import Derived.ProofKit
import Derived.OpenShut
import Derived.ShutString
import Derived.ChangeOld
import Derived.Below
import Derived.Test.YtecimplpfghikaaBack
import Derived.Test.YtecimplpfghikaaSame
import Derived.Deep.RegionHeld3
import Derived.WalkSpells
import Derived.WalkLawsBesides
namespace Go.Proofs.Ytecimplpfghikaa.octetOnce
open Go.ChangeShapes Go.WideShapes Go.ChangeAt Go.RowKit
open Go.ChangeMaps (open_string shut_string)
open wrapped octet
set_option linter.unusedVariables false

theorem own : ownKnob Try.prog.godebug = none := by kernel_rfl
theorem laidOut : laidOutB Try.prog = true := by kernel_rfl

/-- WHAT THE WALK IS TOLD OF A SLICE OF INTEGERS THAT CAME IN: it is nil; or it leads to a row of 'cap' cells, the numbers 'zs' (the first 'len' are its elements, the rest its spare room), each fitting its kind. -/
def IsRow (k : IntKind) (w : World) (a : Option Addr) (len cap : Nat) (zs : List Int) : Prop :=
  (a = none ∧ len = 0 ∧ cap = 0 ∧ zs = []) ∨
  ∃ x, a = some x ∧ len ≤ cap ∧ cap ≤ maxLen ∧ zs.length = cap ∧ (∀ i, i < zs.length → w.cell? (x.add i) = some (.int k (zs.getD i 0))) ∧ ∀ n ∈ zs, (Lit.int k n).wf = true

theorem row_in {w : World} {a : Option Addr} {len cap : Nat} {zs : List Int} (h : IsRow .u8 w a len cap zs) : Row w a len (bytAt zs) ∧ (a = none → len = 0 ∧ cap = 0) ∧ len ≤ cap := by
  rcases h with ⟨rfl, rfl, rfl, rfl⟩ | ⟨x, hx, hl, hm, hz, hc, hw⟩
  · exact ⟨⟨by omega, fun i => Nat.mod_lt _ (by decide), .inl rfl⟩, fun _ => ⟨rfl, rfl⟩, Nat.le_refl _⟩
  · exact ⟨row_of hl hm hz x hx hc hw, fun h => (by rw [hx] at h; cases h), hl⟩
theorem sz127 : szN 127 = 1 := szN_small 127 (by decide)
theorem sz128 : szN 128 = 2 := by rw [szN_step 128 (by decide) (by decide), show 128 / 128 = 1 from rfl, szN_small 1 (by decide)]
/-- What an answer of Get is. -/
theorem gotten_spec (f : Nat → Nat) (hf : ∀ i, f i < 256) (n : Nat) (a X E R : Int) (h : gotten f n a = (X, E, R)) :
    (R ≠ 0 ∧ X = 0 ∧ E = 0) ∨ (R = 0 ∧ ∃ s c x : Nat, a = (s : Int) ∧ s + (c + 1) ≤ n ∧ X = (x : Int) ∧ E = ((s + (c + 1) : Nat) : Int) ∧ x < 18446744073709551616 ∧ szN x = c + 1 ∧ ∀ i, i < c + 1 → gr x i = f (s + i)) := by
  unfold gotten at h
  by_cases hb : 0 ≤ a ∧ a ≤ n
  · rw [if_pos hb] at h
    rcases run_spec (fun i => f (a.toNat + i)) (n - a.toNat) 10 0 (by omega) (by omega) (fun i hi => by omega) with ⟨_, c, _, h9, hm, h1, h2, h3, h4, e⟩ | ⟨e', _, _, e⟩
    · obtain ⟨o1, o2, o3⟩ := once (fun i => f (a.toNat + i)) c h9 h1 (fun i => hf _) h2 h3 h4
      rw [e] at h
      unfold res at h
      simp only [Prod.mk.injEq] at h
      obtain ⟨hX, hE, hR⟩ := h
      right
      refine ⟨by omega, a.toNat, c, _, by omega, by omega, hX.symm, ?_, o1, o2, o3⟩
      rw [← hE]; rfl
    · rw [e] at h
      unfold res at h
      simp only [Prod.mk.injEq] at h
      obtain ⟨hX, hE, hR⟩ := h
      left
      rw [if_neg (by omega)] at hE
      omega
  · rw [if_neg hb] at h
    simp only [Prod.mk.injEq] at h
    omega

/-! ### STEP 1: THE WALK: the Go text returns true, AND WRITES NOTHING THAT WAS THERE: 'Below w.heap.size w w'' (Derived/Below.lean: '.refl', '.alloc', '.drew', '.setCell' at a new block, '.trans'). Open each 'IsRow' by 'rcases' AHEAD of 'go_enter'; part every test ahead of the walk. -/
set_option maxRecDepth 100000 in
set_option maxHeartbeats 1000000 in
theorem walk (a0 : Option Addr) (len0 cap0 : Nat) (z0 : List Int) (a1 : Int) (w : World) (w0 : IsRow .u8 w a0 len0 cap0 z0) (w1 : (Lit.int .i64 a1).wf = true) :
    Calls Try.prog 7 #[.slice a0 len0 cap0, .int .i64 a1] w fun e w' => e = .returned (.bool true) ∧ Below w.heap.size w w' := by
  obtain ⟨la, ha⟩ := wf_bounds w1
  obtain ⟨hr, hnn, hlc⟩ := row_in w0
  obtain ⟨⟨X, E, R⟩, hg⟩ : ∃ r, gotten (bytAt z0) len0 a1 = r := ⟨_, rfl⟩
  have cG := get_any a0 len0 cap0 a1 (bytAt z0) w hr X E R hg la ha
  rcases gotten_spec _ hr.2.1 _ _ _ _ _ hg with ⟨hR, rfl, rfl⟩ | ⟨rfl, s, c, x, hs, hsc, rfl, hE, hx, hsz, hgr⟩
  · have c1 := size_any 127 (by decide)
    have c2 := size_any 128 (by decide)
    rw [sz127] at c1
    rw [sz128] at c2
    have c1' : ∀ w, Calls Try.prog 15 #[.int .u64 127] w fun e w' => e = .returned (.int .i64 1) ∧ w' = w := c1
    have c2' : ∀ w, Calls Try.prog 15 #[.int .u64 128] w fun e w' => e = .returned (.int .i64 2) ∧ w' = w := c2
    clear c1 c2 hg hr hnn w0
    go_enter Try.func7, Try.ntmps7
    go_wp2_with (first
      | (go_at_call 17; with_reducible refine cG.mono ?_; rintro e w2 ⟨rfl, hw⟩; replace hw := hw.symm; subst hw)
      | (go_at_call 15; first | (with_reducible refine (c1' _).mono ?_; rintro e w5 ⟨rfl, hw⟩; replace hw := hw.symm; subst hw) | (with_reducible refine (c2' _).mono ?_; rintro e w5 ⟨rfl, hw⟩; replace hw := hw.symm; subst hw)))
    go_ret
    exact ⟨rfl, Below.refl _ _⟩
  · have cP := fun w => put_any none 0 0 (fun _ => 0) x (x : Int) w ⟨by decide, fun _ => (by decide : 0 < 256), .inl rfl⟩ (by decide) hx rfl
    rw [hsz] at cP
    obtain ⟨X, hX⟩ : ∃ X : Int, Hid (((x : Nat) : Int) = X) := ⟨_, rfl⟩
    rw [hX.out] at cG cP
    have hlenI : (len0 : Int) ≤ 9223372036854775807 := by have := hr.1; omega
    rcases hr.2.2 with h0 | ⟨b, off, rfl, hcell⟩
    · omega
    obtain ⟨T, hT⟩ : ∃ T : Nat, Hid (s + (c + 1) = T) := ⟨_, rfl⟩
    rw [hT.out] at hE
    subst hs hE
    have hTe := hT.out
    have hlt : decide ((s : Int) < (T : Int)) = true := decide_eq_true (by omega)
    have hlt' : (s : Int) < (T : Int) := by omega
    have h0 : (0 : Int) ≤ (s : Int) := by omega
    have h0T : (0 : Int) ≤ (T : Int) := by omega
    have hlcI : (T : Int) ≤ (cap0 : Int) := by omega
    have hsT : s ≤ T := by omega
    have hrow : ∀ w', Below w.heap.size w w' → Row w' (some ⟨b, off + s, none⟩) (T - s) (fun i => bytAt z0 (s + i)) := fun w' hb => by
      have h := hr.later hb
      refine ⟨by have := hr.1; omega, fun i => hr.2.1 _, .inr ⟨b, off + s, rfl, fun i hi => ?_⟩⟩
      rcases h.2.2 with h0 | ⟨b', off', e, hc⟩
      · omega
      · simp only [Option.some.injEq, Addr.mk.injEq, and_true] at e
        obtain ⟨rfl, rfl⟩ := e
        rw [Nat.add_assoc]; exact hc (s + i) (by omega)
    have hsame : sameB (cat (fun _ => 0) 0 (gr x)) (0 + (c + 1)) (fun i => bytAt z0 (s + i)) (T - s) = true := by
      rw [sameB_iff _ _ _ _ (cat_lt _ _ _ (fun _ => (by decide : 0 < 256)) (gr_lt x)) (fun i => hr.2.1 _)]
      refine ⟨by omega, fun i hi => ?_⟩
      unfold cat
      rw [if_neg (by omega), Nat.sub_zero]
      exact hgr i (by omega)
    have cS : ∀ w' B cc, Owns w' B B (0 + (c + 1)) (0 + (c + 1)) (cat (fun _ => 0) 0 (gr x)) → Below w.heap.size w w' → Calls Try.prog 12 #[mine B (0 + (c + 1)) (0 + (c + 1)), .slice (some ⟨b, off + s, none⟩) (T - s) cc] w' fun e w'' => e = .returned (.bool true) ∧ w'' = w' :=
      fun w' B cc ho hb => same_any _ _ _ _ _ _ _ _ w' (Owns.row ho (by have := hr.1; omega) (cat_lt _ _ _ (fun _ => (by decide : 0 < 256)) (gr_lt x))) (hrow w' hb) true hsame
    generalize cat (fun _ => 0) 0 (gr x) = F at *
    generalize 0 + (c + 1) = N at *
    clear hg w0 hX hT hTe hsame hrow hcell hgr hsz hsc hr hnn hx hlc
    go_enter Try.func7, Try.ntmps7
    go_wp2_with (go_at_call 17; with_reducible refine cG.mono ?_; rintro e w2 ⟨rfl, hw⟩; replace hw := hw.symm; subst hw)
    go_region_held3 (fun _ => True) (trivial) (first | (go_at_call 10; refine (cP _).mono ?_; rintro e w2 ⟨rfl, ho2, hb2⟩) | (go_at_call 12; refine (cS _ _ _ ho2 ((Below.refl _ w).drew.trans (hb2.mono (Nat.le_refl _)))).mono ?_; rintro e w3 ⟨rfl, hw⟩; replace hw := hw.symm; subst hw))
    go_wp2
    go_ret
    exact ⟨rfl, (Below.refl _ w).drew.trans (hb2.mono (Nat.le_refl _))⟩

/-! ### THE ROW's STEP: WRITTEN OUT: LEAVE IT -/
set_option maxRecDepth 100000 in
theorem lifted (os : Os) (started : os.Started) (H : Type) (enc : TypeId × Value → H) :
    ReturnsInHanded {} Try.checked os 7 .any (Rows.octetOnceSpec.pre6 enc Try.prog Try.f7 Rows.octetOnceRow.domain false) (Rows.octetOnceSpec.post enc Try.prog Try.f7 false true false false) := by
  refine returnsInHanded_of_change (C := Try.checked) own started (by kernel_rfl) Try.func7
    (ChangeSpec.witness6 (enc := enc) (C := Try.checked) false ⟨#[], #[.slice none 0 0, .int .i64 0], []⟩ 8 (by kernel_rfl) (by kernel_rfl) (by kernel_rfl) (by kernel_rfl)) ?_
  intro W base args ds gs before hval0 hW hcnd _
  have hval : ∀ (j : Nat) t v, Try.f7.params[j]? = some t → args[j]? = some v → Value.okWide Try.prog W .any base t v := hval0
  have hW' := hW
  obtain ⟨p, q, hA0, hV, rfl, hfz, hnd⟩ := hW
  have hA : DataW.TrodAll enc Try.prog W 0 (fun _ => true) true Try.f7.params.toList args.toList ds p := hA0
  rw [Try.params7] at hA hval
  obtain ⟨v0, vs0, d0, ds0, p0, q0, hargs, rfl, rfl, h0, r0⟩ := trodAll_cons hA
  obtain ⟨v1, vs1, d1, ds1, p1, q1, rfl, rfl, rfl, h1, r1⟩ := trodAll_cons r0
  obtain ⟨rfl, rfl, rfl⟩ := trodAll_nil r1
  obtain rfl : args = #[v0, v1] := by cases args; simp_all
  obtain ⟨rfl, rfl⟩ := trodVars_none hV
  obtain ⟨a0, len0, cap0, rfl⟩ := okWide_slice Try.underlying22 (hval 0 22 v0 rfl rfl)
  have k0 := h0
  have lt0 : ∀ x ∈ p0, x.block < W.heap.size := by obtain ⟨m, hm⟩ := k0; exact DataW.trod_lt m _ _ _ hm
  obtain ⟨z0, w0⟩ : ∃ zs, IsRow .u8 W a0 len0 cap0 zs := by
    obtain ⟨fuel, hf⟩ := h0
    rcases open_ints Try.underlying22 Try.underlying5 (by kernel_rfl) hf with ⟨hcs, _⟩ | ⟨x, l, c, zs, hcs, _, hl, hm, hz, _, hcell, hwz⟩
    · simp [Value.cells] at hcs
      obtain ⟨rfl, rfl, rfl⟩ := hcs
      exact ⟨[], .inl ⟨rfl, rfl, rfl, rfl⟩⟩
    · simp [Value.cells] at hcs
      obtain ⟨rfl, rfl, rfl⟩ := hcs
      exact ⟨zs, .inr ⟨_, rfl, hl, hm, by simpa using hz, hcell, hwz⟩⟩
  obtain ⟨a1, rfl, rfl, rfl, w1⟩ := open_int Try.underlying3 (hval 1 3 v1 rfl rfl) h1
  clear hA0 hval0
  refine (walk a0 len0 cap0 z0 a1 W w0 w1).mono fun e W' ⟨he, bel⟩ => ?_
  subst he
  exact ⟨_, rfl, _, _, _, [], _, [], hW', trodAll_mk1 (shut_bool Try.underlying4 _), (trodAll_cons_mk (Below.trod laidOut (by kernel_rfl) (of_decide_eq_true (by kernel_rfl)) k0 bel lt0) (trodAll_cons_mk (shut_int Try.underlying3 w1) trodAll_mk0)), rfl, bel.frame _, fun h => by cases h⟩

theorem over : Rows.octetOnceRow.holds Try.pinned (OpenSpec.ofChange Rows.octetOnceSpec) :=
  OpenClaim.holds_of_wide 7 Try.f7 rfl rfl rfl rfl rfl rfl rfl ⟨rfl, rfl, rfl, rfl, rfl⟩ rfl rfl rfl rfl rfl (by kernel_rfl) Try.func7 (by kernel_rfl)
    (of_decide_eq_true (by kernel_rfl)) (by unfold Func.isWrapper; first | (rw [if_pos (by decide +kernel)]; kernel_rfl) | (rw [if_neg (by decide +kernel)]; exact ⟨rfl, rfl⟩))
    (fun os started H enc _ => lifted os started H enc)

/-- ████ THE STATEMENT ████ -/
theorem proved : Rows.OctetOnceSaid := over
end Go.Proofs.Ytecimplpfghikaa.octetOnce
namespace Go.Proofs.Ytecimplpfghikaa
theorem octetOnce_holds : Rows.OctetOnceSaid := octetOnce.proved
#print axioms octetOnce_holds
end Go.Proofs.Ytecimplpfghikaa
