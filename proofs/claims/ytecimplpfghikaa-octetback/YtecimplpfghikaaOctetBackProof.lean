/- OctetBack answers true for every list of bytes b, every number x and every number with a sign y: what Put and PutInt wrote behind b is read as it was, and the place behind it; zigzag turns back both ways; Put takes as many bytes as Size says. No condition beside the given row's own. The frame round the walk was written by the kit's proof-skeleton; the walk is ours. -/
import Derived.Test.YtecimplpfghikaaRows
import Derived.WalkKit
import Derived.ProofKit
import Derived.OpenShut
import Derived.ShutString
import Derived.ChangeOld
import Derived.Below
import Derived.Test.YtecimplpfghikaaBack
import Derived.WalkSpells
import Derived.WalkLawsBesides
import Derived.SizedLaws
namespace Go.Proofs.Ytecimplpfghikaa.octetBack
open Go.ChangeShapes Go.WideShapes Go.ChangeAt Go.RowKit
open Go.ChangeMaps (open_string shut_string)
open wrapped octet
set_option linter.unusedVariables false

theorem own : ownKnob Try.prog.godebug = none := by kernel_rfl
theorem laidOut : laidOutB Try.prog = true := by kernel_rfl

/-- WHAT THE WALK IS TOLD OF A SLICE OF INTEGERS THAT CAME IN: it is nil; or it leads to a row of 'cap' cells, the numbers 'zs' (the first 'len' are its elements, the rest its spare room), each fitting its kind. -/
def IsRow (k : IntKind) (w : World) (a : Option Addr) (len cap : Nat) (zs : List Int) : Prop :=
  (a = none ∧ len = 0 ∧ cap = 0 ∧ zs = []) ∨
  ∃ x, a = some x ∧ len ≤ cap ∧ cap ≤ maxLen ∧ zs.length = cap ∧ (∀ i, i < zs.length → w.cell? (x.add i) = some (.int k (zs.getD i 0))) ∧ ∀ n ∈ zs, (Lit.int k n).wf = true

theorem row_in {w : World} {a : Option Addr} {len cap : Nat} {zs : List Int} (h : IsRow .u8 w a len cap zs) : Row w a len (bytAt zs) ∧ (a = none → len = 0 ∧ cap = 0) ∧ len ≤ cap := by
  rcases h with ⟨rfl, rfl, rfl, rfl⟩ | ⟨x, hx, hl, hm, hz, hc, hw⟩
  · exact ⟨⟨by omega, fun i => Nat.mod_lt _ (by decide), .inl rfl⟩, fun _ => ⟨rfl, rfl⟩, Nat.le_refl _⟩
  · exact ⟨row_of hl hm hz x hx hc hw, fun h => (by rw [hx] at h; cases h), hl⟩

/-! ### STEP 1: THE WALK: the Go text returns true, AND WRITES NOTHING THAT WAS THERE: 'Below w.heap.size w w'' (Derived/Below.lean: '.refl', '.alloc', '.drew', '.setCell' at a new block, '.trans'). Open each 'IsRow' by 'rcases' AHEAD of 'go_enter'; part every test ahead of the walk. -/
set_option maxRecDepth 100000 in
set_option maxHeartbeats 1000000 in
theorem walk (a0 : Option Addr) (len0 cap0 : Nat) (z0 : List Int) (a1 : Int) (a2 : Int) (w : World) (w0 : IsRow .u8 w a0 len0 cap0 z0) (rch0 : cap0 ≤ 140737488351232) (w1 : (Lit.int .u64 a1).wf = true) (w2 : (Lit.int .i64 a2).wf = true) :
    Calls Try.prog 6 #[.slice a0 len0 cap0, .int .u64 a1, .int .i64 a2] w fun e w' => e = .returned (.bool true) ∧ Below w.heap.size w w' := by
  obtain ⟨lx, hx⟩ := wf_ubounds w1
  obtain ⟨ly, hy⟩ := wf_bounds w2
  obtain ⟨hr, hnn, hlc⟩ := row_in w0
  have hf := hr.2.1
  obtain ⟨x, hxe⟩ : ∃ x : Nat, a1 = (x : Int) := ⟨a1.toNat, by omega⟩
  obtain ⟨z, hze⟩ : ∃ z : Nat, z = (zg a2).toNat := ⟨_, rfl⟩
  have hzb := zg_bd a2 ly hy
  have hxl : x < 18446744073709551616 := by omega
  have hzl : z < 18446744073709551616 := by omega
  have b1 := szN_bd x hxl
  have b2 := szN_bd z hzl
  have g1 := gotten_back (bytAt z0) len0 x hxl
  have g2 := gotten_back (bytAt z0) len0 z hzl
  have cf1 := cat_lt (bytAt z0) (gr x) len0 hf (gr_lt x)
  have cf2 := cat_lt (bytAt z0) (gr z) len0 hf (gr_lt z)
  have cP := put_any a0 len0 cap0 (bytAt z0) x a1 w hr (by omega) hxl hxe
  have cQ : ∀ w', Below w.heap.size w w' → _ := fun w' hb => putint_any a0 len0 cap0 (bytAt z0) a2 z w' (hr.later hb) (by omega) ly hy hze
  have cG : ∀ w' B, Owns w' B B (len0 + szN x) (len0 + szN x) (cat (bytAt z0) len0 (gr x)) → _ := fun w' B ho => get_any (some ⟨B, 0, none⟩) (len0 + szN x) (len0 + szN x) (len0 : Int) _ w' (Owns.row ho (by omega) cf1) _ _ _ g1 (by omega) (by omega)
  have cI : ∀ w' B, Owns w' B B (len0 + szN z) (len0 + szN z) (cat (bytAt z0) len0 (gr z)) → _ := fun w' B ho => getint_any (some ⟨B, 0, none⟩) (len0 + szN z) (len0 + szN z) (len0 : Int) _ w' (Owns.row ho (by omega) cf2) _ _ _ g2 (by omega) (by omega) a2 (by rw [hze, Int.toNat_of_nonneg hzb.1, zb_zg])
  have c1 := zig_any a2 ly hy
  have c2 := zag_any (zg a2) hzb.1 hzb.2
  rw [zb_zg] at c2
  have c3 := zag_any a1 lx hx
  have hzz := zb_bd a1 lx hx
  have c4 := zig_any (zb a1) hzz.1 hzz.2
  rw [zg_zb a1 lx] at c4
  have c5 := size_any x hxl
  rw [← hxe] at c5 cG
  have hlI : (len0 : Int) ≤ 140737488351232 := by omega
  generalize zg a2 = ZG at *
  generalize zb a1 = ZB at *
  generalize szN x = S1 at *
  generalize szN z = S2 at *
  generalize cat (bytAt z0) len0 (gr x) = F1 at *
  generalize cat (bytAt z0) len0 (gr z) = F2 at *
  clear w0 w1 w2 rch0 hlc hnn hr hf g1 g2 cf1 cf2 hzl hxl hze hxe hzb hzz
  go_enter Try.func6, Try.ntmps6
  go_wp2_with (first
    | (go_at_call 10; with_reducible refine cP.mono ?_; rintro e w1 ⟨rfl, ho1, hb1⟩)
    | (go_at_call 17; with_reducible refine (cG w1 _ ho1).mono ?_; rintro e w2 ⟨rfl, hw⟩; replace hw := hw.symm; subst hw)
    | (go_at_call 11; with_reducible refine (cQ w1 hb1).mono ?_; rintro e w3 ⟨rfl, ho3, hb3⟩)
    | (go_at_call 19; with_reducible refine (cI w3 _ ho3).mono ?_; rintro e w4 ⟨rfl, hw⟩; replace hw := hw.symm; subst hw)
    | (go_at_call 35; first | (with_reducible refine (c1 _).mono ?_; rintro e w5 ⟨rfl, hw⟩; replace hw := hw.symm; subst hw) | (with_reducible refine (c4 _).mono ?_; rintro e w5 ⟨rfl, hw⟩; replace hw := hw.symm; subst hw))
    | (go_at_call 34; first | (with_reducible refine (c2 _).mono ?_; rintro e w5 ⟨rfl, hw⟩; replace hw := hw.symm; subst hw) | (with_reducible refine (c3 _).mono ?_; rintro e w5 ⟨rfl, hw⟩; replace hw := hw.symm; subst hw))
    | (go_at_call 15; with_reducible refine (c5 _).mono ?_; rintro e w5 ⟨rfl, hw⟩; replace hw := hw.symm; subst hw))
  go_ret
  exact ⟨rfl, hb1.trans (hb3.mono hb1.size)⟩

/-! ### THE ROW's STEP: WRITTEN OUT: LEAVE IT -/
set_option maxRecDepth 100000 in
theorem lifted (os : Os) (started : os.Started) (H : Type) (enc : TypeId × Value → H) :
    ReturnsInHanded {} Try.checked os 6 .any (Rows.octetBackSpec.pre6 enc Try.prog Try.f6 Rows.octetBackRow.domain false) (Rows.octetBackSpec.post enc Try.prog Try.f6 false true false false) := by
  refine returnsInHanded_of_change_sized (C := Try.checked) own started (by kernel_rfl) Try.func6
    (ChangeSpec.witness6 (enc := enc) (C := Try.checked) false ⟨#[], #[.slice none 0 0, .int .u64 0, .int .i64 0], []⟩ 8 (by kernel_rfl) (by kernel_rfl) (by kernel_rfl) (by kernel_rfl)) ?_
  intro W base args ds gs before hval0 hW hcnd hsz0 _
  have hval : ∀ (j : Nat) t v, Try.f6.params[j]? = some t → args[j]? = some v → Value.okWide Try.prog W .any base t v := hval0
  have hW' := hW
  obtain ⟨p, q, hA0, hV, rfl, hfz, hnd⟩ := hW
  have hA : DataW.TrodAll enc Try.prog W 0 (fun _ => true) true Try.f6.params.toList args.toList ds p := hA0
  rw [Try.params6] at hA hval
  have hsz : (DataW.weightsEach Try.prog (Try.f6.params.toList ++ Rows.octetBackSpec.plain.varTypes Try.prog) (ds ++ gs)).all (· ≤ reachBytes) = true := hsz0
  rw [Try.params6] at hsz
  obtain ⟨v0, vs0, d0, ds0, p0, q0, hargs, rfl, rfl, h0, r0⟩ := trodAll_cons hA
  obtain ⟨v1, vs1, d1, ds1, p1, q1, rfl, rfl, rfl, h1, r1⟩ := trodAll_cons r0
  obtain ⟨v2, vs2, d2, ds2, p2, q2, rfl, rfl, rfl, h2, r2⟩ := trodAll_cons r1
  obtain ⟨rfl, rfl, rfl⟩ := trodAll_nil r2
  obtain rfl : args = #[v0, v1, v2] := by cases args; simp_all
  obtain ⟨rfl, rfl⟩ := trodVars_none hV
  obtain ⟨a0, len0, cap0, rfl⟩ := okWide_slice Try.underlying22 (hval 0 22 v0 rfl rfl)
  have k0 := h0
  have lt0 : ∀ x ∈ p0, x.block < W.heap.size := by obtain ⟨m, hm⟩ := k0; exact DataW.trod_lt m _ _ _ hm
  obtain ⟨z0, w0, rch0⟩ : ∃ zs, IsRow .u8 W a0 len0 cap0 zs ∧ cap0 ≤ 140737488351232 := by
    obtain ⟨fuel, hf⟩ := h0
    rcases open_ints Try.underlying22 Try.underlying5 (by kernel_rfl) hf with ⟨hcs, _⟩ | ⟨x, l, c, zs, hcs, _, hl, hm, hz, hx, hcell, hwz⟩
    · simp [Value.cells] at hcs
      obtain ⟨rfl, rfl, rfl⟩ := hcs
      exact ⟨[], .inl ⟨rfl, rfl, rfl, rfl⟩, by omega⟩
    · simp [Value.cells] at hcs
      obtain ⟨rfl, rfl, rfl⟩ := hcs
      have hd : d0 = .slice (lits .u8 (zs.take len0)) (lits .u8 (zs.drop len0)) := congrArg Prod.fst hx
      refine ⟨zs, .inr ⟨_, rfl, hl, hm, by simpa using hz, hcell, hwz⟩, ?_⟩
      have h3 := sized_slice hsz (j := 0) (t := 22) (e := 5) rfl (congrArg some hd) Try.underlying22
      have hb : Try.prog.bytesOf 5 = 1 := by kernel_rfl
      rw [hb] at h3
      simp only [lits, List.length_map, List.length_take, List.length_drop, reachBytes] at h3
      simp only [if_true] at hz
      omega
  obtain ⟨a1, rfl, rfl, rfl, w1⟩ := open_int Try.underlying23 (hval 1 23 v1 rfl rfl) h1
  obtain ⟨a2, rfl, rfl, rfl, w2⟩ := open_int Try.underlying2 (hval 2 2 v2 rfl rfl) h2
  clear hA0 hval0
  refine (walk a0 len0 cap0 z0 a1 a2 W w0 rch0 w1 w2).mono fun e W' ⟨he, bel⟩ => ?_
  subst he
  exact ⟨_, rfl, _, _, _, [], _, [], hW', trodAll_mk1 (shut_bool Try.underlying4 _), (trodAll_cons_mk (Below.trod laidOut (by kernel_rfl) (of_decide_eq_true (by kernel_rfl)) k0 bel lt0) (trodAll_cons_mk (shut_int Try.underlying23 w1) (trodAll_cons_mk (shut_int Try.underlying2 w2) trodAll_mk0))), rfl, bel.frame _, fun h => by cases h⟩

theorem over : Rows.octetBackRow.holds Try.pinned (OpenSpec.ofChange Rows.octetBackSpec) :=
  OpenClaim.holds_of_wide 6 Try.f6 rfl rfl rfl rfl rfl rfl rfl ⟨rfl, rfl, rfl, rfl, rfl⟩ rfl rfl rfl rfl rfl (by kernel_rfl) Try.func6 (by kernel_rfl)
    (of_decide_eq_true (by kernel_rfl)) (by unfold Func.isWrapper; first | (rw [if_pos (by decide +kernel)]; kernel_rfl) | (rw [if_neg (by decide +kernel)]; exact ⟨rfl, rfl⟩))
    (fun os started H enc _ => lifted os started H enc)

/-- ████ THE STATEMENT ████ -/
theorem proved : Rows.OctetBackSaid := over
end Go.Proofs.Ytecimplpfghikaa.octetBack
namespace Go.Proofs.Ytecimplpfghikaa
theorem octetBack_holds : Rows.OctetBackSaid := octetBack.proved
#print axioms octetBack_holds
end Go.Proofs.Ytecimplpfghikaa
