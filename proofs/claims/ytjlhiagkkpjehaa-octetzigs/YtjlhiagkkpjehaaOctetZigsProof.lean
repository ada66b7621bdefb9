/- OctetZigs answers true for every word x, every number u and every list of bytes b: Zig, Zag, Fixed and Sum of package octet are what the document's own answers are. No condition beside the given row's own. The frame round the walk was written by the kit's proof-skeleton; the walk is ours. -/
import Derived.Test.YtjlhiagkkpjehaaRows
import Derived.WalkKit
import Derived.ProofKit
import Derived.OpenShut
import Derived.ShutString
import Derived.ChangeOld
import Derived.Below
import Derived.Test.YtjlhiagkkpjehaaCrc
import Derived.Test.YtjlhiagkkpjehaaZag
import Derived.WalkSpells
import Derived.WalkLawsBesides
namespace Go.Proofs.Ytjlhiagkkpjehaa.octetZigs
open Go.ChangeShapes Go.WideShapes Go.ChangeAt Go.RowKit
open Go.ChangeMaps (open_string shut_string)
open wrapped octet
set_option linter.unusedVariables false

theorem own : ownKnob Try.prog.godebug = none := by kernel_rfl
theorem laidOut : laidOutB Try.prog = true := by kernel_rfl

/-- WHAT THE WALK IS TOLD OF A SLICE OF INTEGERS THAT CAME IN: it is nil; or it leads to a row of 'cap' cells, the numbers 'zs' (the first 'len' are its elements, the rest its spare room), each fitting its kind. -/
def IsRow (k : IntKind) (w : World) (a : Option Addr) (len cap : Nat) (zs : List Int) : Prop :=
  (a = none ∧ len = 0 ∧ cap = 0 ∧ zs = []) ∨
  ∃ x, a = some x ∧ len ≤ cap ∧ cap ≤ maxLen ∧ zs.length = cap ∧ (∀ i, i < zs.length → w.cell? (x.add i) = some (.int k (zs.getD i 0))) ∧ ∀ n ∈ zs, (Lit.int k n).wf = true

theorem row_in {w : World} {a : Option Addr} {len cap : Nat} {zs : List Int} (h : IsRow .u8 w a len cap zs) : Row w a len (bytAt zs) := by
  rcases h with ⟨rfl, rfl, rfl, rfl⟩ | ⟨x, hx, hl, hm, hz, hc, hw⟩
  · exact ⟨by omega, fun i => Nat.mod_lt _ (by decide), .inl rfl⟩
  · exact row_of hl hm hz x hx hc hw
theorem same48 (p q r s : Int) (w : World) : (Op.equalIn 10000 48 (.agg #[.int .u8 p, .int .u8 q, .int .u8 r, .int .u8 s]) (.agg #[.int .u8 p, .int .u8 q, .int .u8 r, .int .u8 s])).run Try.prog w = .ok true w := by
  have u5 := Try.underlying5
  have a5 := Try.isAgg5
  have z5 := Try.sizeOf5
  rw [show (10000 : Nat) = 9999 + 1 from rfl, Op.equalIn]
  simp only [Sem.run_bind, run_underlying Try.underlying48, Result.andThen_ok]
  simp only [Std.Legacy.Range.forIn_eq_forIn_range', Std.Legacy.Range.size, Nat.sub_zero, Nat.add_sub_cancel, Nat.div_one, List.range'_succ, List.range'_zero, List.forIn_cons, List.forIn_nil]
  go_simp
  try simp

/-! ### STEP 1: THE WALK: the Go text returns true, AND WRITES NOTHING THAT WAS THERE: 'Below w.heap.size w w'' (Derived/Below.lean: '.refl', '.alloc', '.drew', '.setCell' at a new block, '.trans'). Open each 'IsRow' by 'rcases' AHEAD of 'go_enter'; part every test ahead of the walk. -/
set_option maxRecDepth 100000 in
set_option maxHeartbeats 1000000 in
theorem walk (a0 : Int) (a1 : Int) (a2 : Option Addr) (len2 cap2 : Nat) (z2 : List Int) (w : World) (w0 : (Lit.int .i64 a0).wf = true) (w1 : (Lit.int .u64 a1).wf = true) (w2 : IsRow .u8 w a2 len2 cap2 z2) :
    Calls Try.prog 5 #[.int .i64 a0, .int .u64 a1, .slice a2 len2 cap2] w fun e w' => e = .returned (.bool true) ∧ Below w.heap.size w w' := by
  obtain ⟨la, ha⟩ := wf_bounds w0
  obtain ⟨lb, hb⟩ := wf_ubounds w1
  have hr := row_in w2
  have c1 := zig_any a0 la ha
  have c2 := refzig_any a0 la ha
  obtain ⟨z, hz⟩ : ∃ z, Hid (zg a0 = z) := ⟨_, rfl⟩
  rw [hz.out] at c1 c2
  have c3 := zag_any a1 lb hb
  have c4 := refzag_any a1 lb hb
  obtain ⟨v, hv⟩ : ∃ v, Hid (zb a1 = v) := ⟨_, rfl⟩
  rw [hv.out] at c3 c4
  have c5 := fixed_any (a1 % 4294967296) (by omega) (by omega)
  have c6 := reffixed_any (a1 % 4294967296) (by omega) (by omega)
  clear hz hv w2
  have c7 : ∀ w', Below w.heap.size w w' → Calls Try.prog 29 #[.slice a2 len2 cap2] w' fun e w'' => e = .returned (.int .u32 ((4294967295 - crc (bytAt z2) len2 : Nat) : Int)) ∧ w'' = w' := fun w' h => sum_any a2 len2 cap2 _ w' (hr.later h)
  have c8 : ∀ w', Below w.heap.size w w' → Calls Try.prog 30 #[.slice a2 len2 cap2] w' fun e w'' => e = .returned (.int .u32 ((4294967295 - crc (bytAt z2) len2 : Nat) : Int)) ∧ w'' = w' := fun w' h => refsum_any a2 len2 cap2 _ w' (hr.later h)
  generalize ((4294967295 - crc (bytAt z2) len2 : Nat) : Int) = S at c7 c8
  have hs48 := same48
  clear hr
  go_enter Try.func5, Try.ntmps5
  go_wp2_with (first | (go_at_call 23; with_reducible refine (c1 _).mono ?_; rintro e w' ⟨rfl, rfl⟩) | (go_at_call 24; with_reducible refine (c2 _).mono ?_; rintro e w' ⟨rfl, rfl⟩) | (go_at_call 25; with_reducible refine (c3 _).mono ?_; rintro e w' ⟨rfl, rfl⟩) | (go_at_call 26; with_reducible refine (c4 _).mono ?_; rintro e w' ⟨rfl, rfl⟩) | (go_at_call 27; with_reducible refine (c5 _).mono ?_; rintro e w5 ⟨rfl, hb5⟩) | (go_at_call 28; with_reducible refine (c6 _).mono ?_; rintro e w6 ⟨rfl, hb6⟩) | (go_at_call 29; with_reducible refine (c7 _ (hb5.trans (hb6.mono hb5.size))).mono ?_; rintro e w7 ⟨rfl, hw7⟩; subst hw7) | (go_at_call 30; with_reducible refine (c8 _ (hb5.trans (hb6.mono hb5.size))).mono ?_; rintro e w8 ⟨rfl, hw8⟩; subst hw8))
  go_ret
  exact ⟨rfl, hb5.trans (hb6.mono hb5.size)⟩

/-! ### THE ROW's STEP: WRITTEN OUT: LEAVE IT -/
set_option maxRecDepth 100000 in
theorem lifted (os : Os) (started : os.Started) (H : Type) (enc : TypeId × Value → H) :
    ReturnsInHanded {} Try.checked os 5 .any (Rows.octetZigsSpec.pre6 enc Try.prog Try.f5 Rows.octetZigsRow.domain false) (Rows.octetZigsSpec.post enc Try.prog Try.f5 false true false false) := by
  refine returnsInHanded_of_change (C := Try.checked) own started (by kernel_rfl) Try.func5
    (ChangeSpec.witness6 (enc := enc) (C := Try.checked) false ⟨#[], #[.int .i64 0, .int .u64 0, .slice none 0 0], []⟩ 8 (by kernel_rfl) (by kernel_rfl) (by kernel_rfl) (by kernel_rfl)) ?_
  intro W base args ds gs before hval0 hW hcnd _
  have hval : ∀ (j : Nat) t v, Try.f5.params[j]? = some t → args[j]? = some v → Value.okWide Try.prog W .any base t v := hval0
  have hW' := hW
  obtain ⟨p, q, hA0, hV, rfl, hfz, hnd⟩ := hW
  have hA : DataW.TrodAll enc Try.prog W 0 (fun _ => true) true Try.f5.params.toList args.toList ds p := hA0
  rw [Try.params5] at hA hval
  obtain ⟨v0, vs0, d0, ds0, p0, q0, hargs, rfl, rfl, h0, r0⟩ := trodAll_cons hA
  obtain ⟨v1, vs1, d1, ds1, p1, q1, rfl, rfl, rfl, h1, r1⟩ := trodAll_cons r0
  obtain ⟨v2, vs2, d2, ds2, p2, q2, rfl, rfl, rfl, h2, r2⟩ := trodAll_cons r1
  obtain ⟨rfl, rfl, rfl⟩ := trodAll_nil r2
  obtain rfl : args = #[v0, v1, v2] := by cases args; simp_all
  obtain ⟨rfl, rfl⟩ := trodVars_none hV
  obtain ⟨a0, rfl, rfl, rfl, w0⟩ := open_int Try.underlying2 (hval 0 2 v0 rfl rfl) h0
  obtain ⟨a1, rfl, rfl, rfl, w1⟩ := open_int Try.underlying23 (hval 1 23 v1 rfl rfl) h1
  obtain ⟨a2, len2, cap2, rfl⟩ := okWide_slice Try.underlying22 (hval 2 22 v2 rfl rfl)
  have k2 := h2
  have lt2 : ∀ x ∈ p2, x.block < W.heap.size := by obtain ⟨m, hm⟩ := k2; exact DataW.trod_lt m _ _ _ hm
  obtain ⟨z2, w2⟩ : ∃ zs, IsRow .u8 W a2 len2 cap2 zs := by
    obtain ⟨fuel, hf⟩ := h2
    rcases open_ints Try.underlying22 Try.underlying5 (by kernel_rfl) hf with ⟨hcs, _⟩ | ⟨x, l, c, zs, hcs, _, hl, hm, hz, _, hcell, hwz⟩
    · simp [Value.cells] at hcs
      obtain ⟨rfl, rfl, rfl⟩ := hcs
      exact ⟨[], .inl ⟨rfl, rfl, rfl, rfl⟩⟩
    · simp [Value.cells] at hcs
      obtain ⟨rfl, rfl, rfl⟩ := hcs
      exact ⟨zs, .inr ⟨_, rfl, hl, hm, by simpa using hz, hcell, hwz⟩⟩
  clear hA0 hval0
  refine (walk a0 a1 a2 len2 cap2 z2 W w0 w1 w2).mono fun e W' ⟨he, bel⟩ => ?_
  subst he
  exact ⟨_, rfl, _, _, _, [], _, [], hW', trodAll_mk1 (shut_bool Try.underlying4 _), (trodAll_cons_mk (shut_int Try.underlying2 w0) (trodAll_cons_mk (shut_int Try.underlying23 w1) (trodAll_cons_mk (Below.trod laidOut (by kernel_rfl) (of_decide_eq_true (by kernel_rfl)) k2 bel lt2) trodAll_mk0))), rfl, bel.frame _, fun h => by cases h⟩

theorem over : Rows.octetZigsRow.holds Try.pinned (OpenSpec.ofChange Rows.octetZigsSpec) :=
  OpenClaim.holds_of_wide 5 Try.f5 rfl rfl rfl rfl rfl rfl rfl ⟨rfl, rfl, rfl, rfl, rfl⟩ rfl rfl rfl rfl rfl (by kernel_rfl) Try.func5 (by kernel_rfl)
    (of_decide_eq_true (by kernel_rfl)) (by unfold Func.isWrapper; first | (rw [if_pos (by decide +kernel)]; kernel_rfl) | (rw [if_neg (by decide +kernel)]; exact ⟨rfl, rfl⟩))
    (fun os started H enc _ => lifted os started H enc)

/-- ████ THE STATEMENT ████ -/
theorem proved : Rows.OctetZigsSaid := over
end Go.Proofs.Ytjlhiagkkpjehaa.octetZigs
namespace Go.Proofs.Ytjlhiagkkpjehaa
theorem octetZigs_holds : Rows.OctetZigsSaid := octetZigs.proved
#print axioms octetZigs_holds
end Go.Proofs.Ytjlhiagkkpjehaa
