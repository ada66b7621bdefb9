/- OctetGets answers true for every list of bytes b and every place at: Get, GetInt and GetFixed of a copy of b answer what the document's own answer of b, and the copy stays as it is. No condition beside the given row's own. The frame round the walk was written by the kit's proof-skeleton; the walk is ours. -/
import Derived.Test.YtecimplpfghikaaRows
import Derived.WalkKit
import Derived.ProofKit
import Derived.OpenShut
import Derived.ShutString
import Derived.ChangeOld
import Derived.Below
import Derived.Test.YtecimplpfghikaaBack
import Derived.Test.YtecimplpfghikaaRefGet
import Derived.Test.YtecimplpfghikaaGetFix
import Derived.Test.YtecimplpfghikaaSame
import Derived.WalkSpells
import Derived.WalkLawsBesides
import Derived.SizedLaws
namespace Go.Proofs.Ytecimplpfghikaa.octetGets
open Go.ChangeShapes Go.WideShapes Go.ChangeAt Go.RowKit
open Go.ChangeMaps (open_string shut_string)
open wrapped octet
set_option linter.unusedVariables false

theorem own : ownKnob Try.prog.godebug = none := by kernel_rfl
theorem laidOut : laidOutB Try.prog = true := by kernel_rfl

/-- WHAT THE WALK IS TOLD OF A SLICE OF INTEGERS THAT CAME IN: it is nil; or it leads to a row of 'cap' cells, the numbers 'zs' (the first 'len' are its elements, the rest its spare room), each fitting its kind. -/
def IsRow (k : IntKind) (w : World) (a : Option Addr) (len cap : Nat) (zs : List Int) : Prop :=
  (a = none ∧ len = 0 ∧ cap = 0 ∧ zs = []) ∨
  ∃ x, a = some x ∧ len ≤ cap ∧ cap ≤ maxLen ∧ zs.length = cap ∧ (∀ i, i < zs.length → w.cell? (x.add i) = some (.int k (zs.getD i 0))) ∧ ∀ n ∈ zs, (Lit.int k n).wf = true

theorem row_in {w : World} {a : Option Addr} {len cap : Nat} {zs : List Int} (h : IsRow .u8 w a len cap zs) : Row w a len (bytAt zs) ∧ (a = none → len = 0 ∧ cap = 0) ∧ len ≤ cap := by
  rcases h with ⟨rfl, rfl, rfl, rfl⟩ | ⟨x, hx, hl, hm, hz, hc, hw⟩
  · exact ⟨⟨by omega, fun i => Nat.mod_lt _ (by decide), .inl rfl⟩, fun _ => ⟨rfl, rfl⟩, Nat.le_refl _⟩
  · exact ⟨row_of hl hm hz x hx hc hw, fun h => (by rw [hx] at h; cases h), hl⟩
theorem sz300 : szN 300 = 2 := by rw [szN_step 300 (by decide) (by decide), show 300 / 128 = 2 from rfl, szN_small 2 (by decide)]

/-! ### STEP 1: THE WALK: the Go text returns true, AND WRITES NOTHING THAT WAS THERE: 'Below w.heap.size w w'' (Derived/Below.lean: '.refl', '.alloc', '.drew', '.setCell' at a new block, '.trans'). Open each 'IsRow' by 'rcases' AHEAD of 'go_enter'; part every test ahead of the walk. -/
set_option maxRecDepth 100000 in
set_option maxHeartbeats 1000000 in
theorem walk (a0 : Option Addr) (len0 cap0 : Nat) (z0 : List Int) (a1 : Int) (w : World) (w0 : IsRow .u8 w a0 len0 cap0 z0) (rch0 : cap0 ≤ 140737488351232) (w1 : (Lit.int .i64 a1).wf = true) :
    Calls Try.prog 4 #[.slice a0 len0 cap0, .int .i64 a1] w fun e w' => e = .returned (.bool true) ∧ Below w.heap.size w w' := by
  obtain ⟨la, ha⟩ := wf_bounds w1
  obtain ⟨hr, hnn, hlc⟩ := row_in w0
  have hf := hr.2.1
  have cO := own_any a0 len0 cap0 (bytAt z0) w hr hnn (by omega)
  obtain ⟨⟨X, E, R⟩, hg⟩ : ∃ r, gotten (bytAt z0) len0 a1 = r := ⟨_, rfl⟩
  obtain ⟨⟨X4, E4, R4⟩, hg4⟩ : ∃ r, gotFix (bytAt z0) len0 a1 = r := ⟨_, rfl⟩
  obtain ⟨Y, hY⟩ : ∃ Y, zb X = Y := ⟨_, rfl⟩
  have hrc : ∀ w', Owns w' w.heap.size w.heap.size len0 (len0 + 16) (bytAt z0) → Row w' (some ⟨w.heap.size, 0, none⟩) len0 (bytAt z0) := fun w' ho => Owns.row ho hr.1 hf
  have c1 : ∀ w', Owns w' w.heap.size w.heap.size len0 (len0 + 16) (bytAt z0) → _ := fun w' ho => get_any _ len0 (len0 + 16) a1 _ w' (hrc w' ho) X E R hg la ha
  have c2 : ∀ w', Below w.heap.size w w' → _ := fun w' hb => refget_any a0 len0 cap0 a1 _ w' (hr.later hb) X E R hg la ha
  have c3 : ∀ w', Owns w' w.heap.size w.heap.size len0 (len0 + 16) (bytAt z0) → _ := fun w' ho => getint_any _ len0 (len0 + 16) a1 _ w' (hrc w' ho) X E R hg la ha Y hY
  have c4 : ∀ w', Below w.heap.size w w' → _ := fun w' hb => refgetint_any a0 len0 cap0 a1 _ w' (hr.later hb) X E R hg la ha Y hY
  have c5 : ∀ w', Owns w' w.heap.size w.heap.size len0 (len0 + 16) (bytAt z0) → _ := fun w' ho => (getfix_any _ len0 (len0 + 16) a1 _ w' (hrc w' ho) X4 E4 R4 hg4 la ha).1
  have c6 : ∀ w', Below w.heap.size w w' → _ := fun w' hb => (getfix_any a0 len0 cap0 a1 _ w' (hr.later hb) X4 E4 R4 hg4 la ha).2
  have c7 : ∀ w', Owns w' w.heap.size w.heap.size len0 (len0 + 16) (bytAt z0) → Below w.heap.size w w' → _ := fun w' ho hb => same_any (some ⟨w.heap.size, 0, none⟩) a0 len0 len0 (len0 + 16) cap0 _ _ w' (hrc w' ho) (hr.later hb) true ((sameB_iff _ _ _ _ hf hf).2 ⟨rfl, fun _ _ => rfl⟩)
  have c8 : ∀ w, Calls Try.prog 15 #[.int .u64 300] w fun e w' => e = .returned (.int .i64 2) ∧ w' = w := by have := size_any 300 (by decide); rw [sz300] at this; exact this
  clear w0 w1 rch0 hlc hnn hr hg hg4 hY hrc hf
  go_enter Try.func4, Try.ntmps4
  go_wp2_with (first
    | (go_at_call 9; with_reducible refine cO.mono ?_; rintro e w1 ⟨rfl, ho1, hb1⟩)
    | (go_at_call 17; with_reducible refine (c1 w1 ho1).mono ?_; rintro e w2 ⟨rfl, hw⟩; replace hw := hw.symm; subst hw)
    | (go_at_call 18; with_reducible refine (c2 w1 hb1).mono ?_; rintro e w2 ⟨rfl, hw⟩; replace hw := hw.symm; subst hw)
    | (go_at_call 19; with_reducible refine (c3 w1 ho1).mono ?_; rintro e w2 ⟨rfl, hw⟩; replace hw := hw.symm; subst hw)
    | (go_at_call 20; with_reducible refine (c4 w1 hb1).mono ?_; rintro e w2 ⟨rfl, hw⟩; replace hw := hw.symm; subst hw)
    | (go_at_call 21; with_reducible refine (c5 w1 ho1).mono ?_; rintro e w2 ⟨rfl, hw⟩; replace hw := hw.symm; subst hw)
    | (go_at_call 22; with_reducible refine (c6 w1 hb1).mono ?_; rintro e w2 ⟨rfl, hw⟩; replace hw := hw.symm; subst hw)
    | (go_at_call 12; with_reducible refine (c7 w1 ho1 hb1).mono ?_; rintro e w2 ⟨rfl, hw⟩; replace hw := hw.symm; subst hw)
    | (go_at_call 15; with_reducible refine (c8 w1).mono ?_; rintro e w2 ⟨rfl, hw⟩; replace hw := hw.symm; subst hw))
  go_ret
  exact ⟨rfl, hb1⟩

/-! ### THE ROW's STEP: WRITTEN OUT: LEAVE IT -/
set_option maxRecDepth 100000 in
theorem lifted (os : Os) (started : os.Started) (H : Type) (enc : TypeId × Value → H) :
    ReturnsInHanded {} Try.checked os 4 .any (Rows.octetGetsSpec.pre6 enc Try.prog Try.f4 Rows.octetGetsRow.domain false) (Rows.octetGetsSpec.post enc Try.prog Try.f4 false true false false) := by
  refine returnsInHanded_of_change_sized (C := Try.checked) own started (by kernel_rfl) Try.func4
    (ChangeSpec.witness6 (enc := enc) (C := Try.checked) false ⟨#[], #[.slice none 0 0, .int .i64 0], []⟩ 8 (by kernel_rfl) (by kernel_rfl) (by kernel_rfl) (by kernel_rfl)) ?_
  intro W base args ds gs before hval0 hW hcnd hsz0 _
  have hval : ∀ (j : Nat) t v, Try.f4.params[j]? = some t → args[j]? = some v → Value.okWide Try.prog W .any base t v := hval0
  have hW' := hW
  obtain ⟨p, q, hA0, hV, rfl, hfz, hnd⟩ := hW
  have hA : DataW.TrodAll enc Try.prog W 0 (fun _ => true) true Try.f4.params.toList args.toList ds p := hA0
  rw [Try.params4] at hA hval
  have hsz : (DataW.weightsEach Try.prog (Try.f4.params.toList ++ Rows.octetGetsSpec.plain.varTypes Try.prog) (ds ++ gs)).all (· ≤ reachBytes) = true := hsz0
  rw [Try.params4] at hsz
  obtain ⟨v0, vs0, d0, ds0, p0, q0, hargs, rfl, rfl, h0, r0⟩ := trodAll_cons hA
  obtain ⟨v1, vs1, d1, ds1, p1, q1, rfl, rfl, rfl, h1, r1⟩ := trodAll_cons r0
  obtain ⟨rfl, rfl, rfl⟩ := trodAll_nil r1
  obtain rfl : args = #[v0, v1] := by cases args; simp_all
  obtain ⟨rfl, rfl⟩ := trodVars_none hV
  obtain ⟨a0, len0, cap0, rfl⟩ := okWide_slice Try.underlying22 (hval 0 22 v0 rfl rfl)
  have k0 := h0
  have lt0 : ∀ x ∈ p0, x.block < W.heap.size := by obtain ⟨m, hm⟩ := k0; exact DataW.trod_lt m _ _ _ hm
  obtain ⟨z0, w0, rch0⟩ : ∃ zs, IsRow .u8 W a0 len0 cap0 zs ∧ cap0 ≤ 140737488351232 := by
    obtain ⟨fuel, hf⟩ := h0
    rcases open_ints Try.underlying22 Try.underlying5 (by kernel_rfl) hf with ⟨hcs, _⟩ | ⟨x, l, c, zs, hcs, _, hl, hm, hz, hx, hcell, hwz⟩
    · simp [Value.cells] at hcs
      obtain ⟨rfl, rfl, rfl⟩ := hcs
      exact ⟨[], .inl ⟨rfl, rfl, rfl, rfl⟩, by omega⟩
    · simp [Value.cells] at hcs
      obtain ⟨rfl, rfl, rfl⟩ := hcs
      have hd : d0 = .slice (lits .u8 (zs.take len0)) (lits .u8 (zs.drop len0)) := congrArg Prod.fst hx
      refine ⟨zs, .inr ⟨_, rfl, hl, hm, by simpa using hz, hcell, hwz⟩, ?_⟩
      have h3 := sized_slice hsz (j := 0) (t := 22) (e := 5) rfl (congrArg some hd) Try.underlying22
      have hb : Try.prog.bytesOf 5 = 1 := by kernel_rfl
      rw [hb] at h3
      simp only [lits, List.length_map, List.length_take, List.length_drop, reachBytes] at h3
      simp only [if_true] at hz
      omega
  obtain ⟨a1, rfl, rfl, rfl, w1⟩ := open_int Try.underlying3 (hval 1 3 v1 rfl rfl) h1
  clear hA0 hval0
  refine (walk a0 len0 cap0 z0 a1 W w0 rch0 w1).mono fun e W' ⟨he, bel⟩ => ?_
  subst he
  exact ⟨_, rfl, _, _, _, [], _, [], hW', trodAll_mk1 (shut_bool Try.underlying4 _), (trodAll_cons_mk (Below.trod laidOut (by kernel_rfl) (of_decide_eq_true (by kernel_rfl)) k0 bel lt0) (trodAll_cons_mk (shut_int Try.underlying3 w1) trodAll_mk0)), rfl, bel.frame _, fun h => by cases h⟩

theorem over : Rows.octetGetsRow.holds Try.pinned (OpenSpec.ofChange Rows.octetGetsSpec) :=
  OpenClaim.holds_of_wide 4 Try.f4 rfl rfl rfl rfl rfl rfl rfl ⟨rfl, rfl, rfl, rfl, rfl⟩ rfl rfl rfl rfl rfl (by kernel_rfl) Try.func4 (by kernel_rfl)
    (of_decide_eq_true (by kernel_rfl)) (by unfold Func.isWrapper; first | (rw [if_pos (by decide +kernel)]; kernel_rfl) | (rw [if_neg (by decide +kernel)]; exact ⟨rfl, rfl⟩))
    (fun os started H enc _ => lifted os started H enc)

/-- ████ THE STATEMENT ████ -/
theorem proved : Rows.OctetGetsSaid := over
end Go.Proofs.Ytecimplpfghikaa.octetGets
namespace Go.Proofs.Ytecimplpfghikaa
theorem octetGets_holds : Rows.OctetGetsSaid := octetGets.proved
#print axioms octetGets_holds
end Go.Proofs.Ytecimplpfghikaa
