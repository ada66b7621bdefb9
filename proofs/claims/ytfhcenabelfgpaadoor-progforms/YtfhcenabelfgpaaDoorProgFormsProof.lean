/- ProgForms answers true for every two numbers a and b: Form, Local and Visible of package prog are what the document's own answer. No condition beside the given row's own: the package variables that it lists hold what the program's text lays (tied by the card). The frame round the walk follows the kit's proof-skeleton and its worked toy of a tied card; the walk is ours. -/
import Derived.Test.YtfhcenabelfgpaaDoorRows
import Derived.WalkKit
import Derived.ProofKit
import Derived.OpenShut
import Derived.ShutString
import Derived.Test.YtfhcenabelfgpaaDoorCards
import Derived.Test.YtfhcenabelfgpaaDoorTie
import Derived.Deep.DeepHandedRow
import Derived.Lib.LaidTab
import Derived.Test.YtfhcenabelfgpaaDoorForms
import Derived.WalkSpells
import Derived.WalkLawsBesides
namespace Go.Proofs.YtfhcenabelfgpaaDoor.progForms
open Go.ChangeShapes Go.WideShapes Go.ChangeAt Go.RowKit
open Go.ChangeMaps (open_string shut_string)
open prog
set_option linter.unusedVariables false      -- a walk need not use every 'w<i>' (that an integer argument fits its kind)

theorem own : ownKnob Tryd.prog.godebug = none := by kernel_rfl
theorem table {W : World} (h : laidMetH Tryd.prog Rows.progFormsRow.laid W) : Forms W := forms_of (t := 71) (by kernel_rfl) Tryd.underlying71 (by kernel_rfl) h

theorem bounds {n : Int} (h : (Lit.int .i64 n).wf = true) : -9223372036854775808 ≤ n ∧ n ≤ 9223372036854775807 := by
  simpa [Lit.wf, IntKind.min, IntKind.max, IntKind.bits, IntKind.signed] using h

set_option maxRecDepth 100000 in
set_option maxHeartbeats 1000000 in
theorem walk (a0 : Int) (a1 : Int) (w0 : (Lit.int .i64 a0).wf = true) (w1 : (Lit.int .i64 a1).wf = true) (w : World) (hF : Forms w) :
    Calls Tryd.prog 4 #[.int .i64 a0, .int .i64 a1] w fun e w' => e = .returned (.bool true) ∧ Grown w w' := by
  obtain ⟨l0, h0⟩ := bounds w0
  obtain ⟨l1, h1⟩ := bounds w1
  have hF2 : ∀ o, Forms (w.alloc o) := fun o => hF.later ((Below.refl _ w).alloc (Nat.le_refl _) o)
  have hF1 := hF2 (.cells #[.int .i64 a0, .int .i64 a1] 3)
  have hc0 : (w.alloc (.cells #[.int .i64 a0, .int .i64 a1] 3)).cell? ⟨w.heap.size, 0, none⟩ = some (.int .i64 a0) := by
    rw [cell_of_row _ w.heap.size 0 _ 3 (0, 0) (heap_alloc_new w _)]; rfl
  have hc1 : (w.alloc (.cells #[.int .i64 a0, .int .i64 a1] 3)).cell? ⟨w.heap.size, 1, none⟩ = some (.int .i64 a1) := by
    rw [cell_of_row _ w.heap.size 1 _ 3 (0, 0) (heap_alloc_new w _)]; rfl
  have hgr : Grown w (w.alloc (.cells #[.int .i64 a0, .int .i64 a1] 3)) := by repeat (first | exact Grown.refl _ | apply Grown.drew | apply Grown.alloc)
  go_enter Tryd.func4, Tryd.ntmps4
  go_wp2
  generalize (w.alloc (.cells #[.int .i64 a0, .int .i64 a1] 3)) = W at *
  have f0 := form_any a0 l0 h0 W hF1 _ rfl
  have f1 := form_any a1 l1 h1 W hF1 _ rfl
  have r0 := refform_any a0 l0 h0 W _ rfl
  have r1 := refform_any a1 l1 h1 W _ rfl
  have lo0 := local_any a0 l0 h0 W hF1 _ rfl
  have lo1 := local_any a1 l1 h1 W hF1 _ rfl
  have v0 := visible_any a0 l0 h0 W hF1 _ rfl
  have v1 := visible_any a1 l1 h1 W hF1 _ rfl
  have rl0 := reflocal_any a0 l0 h0 W _ rfl
  have rl1 := reflocal_any a1 l1 h1 W _ rfl
  have rv0 := refvisible_any a0 l0 h0 W _ rfl
  have rv1 := refvisible_any a1 l1 h1 W _ rfl
  have k1 : Calls Tryd.prog 12 #[.int .i64 53] W fun e w' => e = .returned (.string ⟨#[114, 97, 114, 119]⟩) ∧ w' = W := form_any 53 (by decide) (by decide) W hF1 _ rfl
  have k2 : Calls Tryd.prog 14 #[.int .i64 45] W fun e w' => e = .returned (.bool true) ∧ w' = W := local_any 45 (by decide) (by decide) W hF1 _ rfl
  have k3 : Calls Tryd.prog 16 #[.int .i64 50] W fun e w' => e = .returned (.bool true) ∧ w' = W := visible_any 50 (by decide) (by decide) W hF1 _ rfl
  generalize frm a0 = B0 at *
  generalize frm a1 = B1 at *
  generalize loc a0 = L0 at *
  generalize loc a1 = L1 at *
  generalize vis a0 = V0 at *
  generalize vis a1 = V1 at *
  clear w0 w1 hF hF1 hF2
  go_loop [12] (fun i => ∃ k : Nat, k ≤ 2 ∧ i = .int .i64 k) (fun i => 2 - (intOf i).toNat)
  case atStart => exact ⟨0, by omega, rfl⟩
  case round =>
    obtain ⟨k, hk, rfl⟩ := hrel
    rcases (by omega : k = 0 ∨ k = 1 ∨ k = 2) with rfl | rfl | rfl
    · go_wp2_with (first
        | (go_at_call 12; with_reducible refine f0.mono ?_; rintro e w' ⟨rfl, hw⟩; replace hw := hw.symm; subst hw)
        | (go_at_call 13; with_reducible refine r0.mono ?_; rintro e w' ⟨rfl, hw⟩; replace hw := hw.symm; subst hw)
        | (go_at_call 14; with_reducible refine lo0.mono ?_; rintro e w' ⟨rfl, hw⟩; replace hw := hw.symm; subst hw)
        | (go_at_call 15; with_reducible refine rl0.mono ?_; rintro e w' ⟨rfl, hw⟩; replace hw := hw.symm; subst hw)
        | (go_at_call 16; with_reducible refine v0.mono ?_; rintro e w' ⟨rfl, hw⟩; replace hw := hw.symm; subst hw)
        | (go_at_call 17; with_reducible refine rv0.mono ?_; rintro e w' ⟨rfl, hw⟩; replace hw := hw.symm; subst hw))
      go_round
      case rel => exact ⟨1, by omega, rfl⟩
      case measure => simp [intOf]
    · go_wp2_with (first
        | (go_at_call 12; with_reducible refine f1.mono ?_; rintro e w' ⟨rfl, hw⟩; replace hw := hw.symm; subst hw)
        | (go_at_call 13; with_reducible refine r1.mono ?_; rintro e w' ⟨rfl, hw⟩; replace hw := hw.symm; subst hw)
        | (go_at_call 14; with_reducible refine lo1.mono ?_; rintro e w' ⟨rfl, hw⟩; replace hw := hw.symm; subst hw)
        | (go_at_call 15; with_reducible refine rl1.mono ?_; rintro e w' ⟨rfl, hw⟩; replace hw := hw.symm; subst hw)
        | (go_at_call 16; with_reducible refine v1.mono ?_; rintro e w' ⟨rfl, hw⟩; replace hw := hw.symm; subst hw)
        | (go_at_call 17; with_reducible refine rv1.mono ?_; rintro e w' ⟨rfl, hw⟩; replace hw := hw.symm; subst hw))
      go_round
      case rel => exact ⟨2, by omega, rfl⟩
      case measure => simp [intOf]
    · go_wp2_with (first
        | (go_at_call 12; with_reducible refine k1.mono ?_; rintro e w' ⟨rfl, hw⟩; replace hw := hw.symm; subst hw)
        | (go_at_call 14; with_reducible refine k2.mono ?_; rintro e w' ⟨rfl, hw⟩; replace hw := hw.symm; subst hw)
        | (go_at_call 16; with_reducible refine k3.mono ?_; rintro e w' ⟨rfl, hw⟩; replace hw := hw.symm; subst hw))
      go_ret
      exact ⟨rfl, hgr⟩

set_option maxRecDepth 100000 in
theorem contract (H : Type) (enc : TypeId × Value → H) (W : World) (base : Nat) (args : Array Value) (ds gs : List (DataW H)) (before : List MemPlace)
    (hval0 : ∀ (j : Nat) t v, Tryd.f4.params[j]? = some t → args[j]? = some v → Value.okWide Tryd.prog W .any base t v)
    (hW : DataW.Whole enc Tryd.prog Tryd.f4.params.toList Rows.progFormsSpec.vars false W args.toList ds gs before) (hL : laidMetH Tryd.prog Rows.progFormsRow.laid W) :
    Calls Tryd.prog 4 args W fun e W' => ∃ v, e = .returned v ∧ Rows.progFormsSpec.post enc Tryd.prog Tryd.f4 false true false false W args v W' := by
  have hval : ∀ (j : Nat) t v, Tryd.f4.params[j]? = some t → args[j]? = some v → Value.okWide Tryd.prog W .any base t v := hval0
  have hW' := hW
  obtain ⟨p, q, hA0, hV, rfl, hfz, hnd⟩ := hW
  have hA : DataW.TrodAll enc Tryd.prog W 0 (fun _ => true) true Tryd.f4.params.toList args.toList ds p := hA0
  rw [Tryd.params4] at hA hval
  obtain ⟨v0, vs0, d0, ds0, p0, q0, hargs, rfl, rfl, h0, r0⟩ := trodAll_cons hA
  obtain ⟨v1, vs1, d1, ds1, p1, q1, rfl, rfl, rfl, h1, r1⟩ := trodAll_cons r0
  obtain ⟨rfl, rfl, rfl⟩ := trodAll_nil r1
  obtain rfl : args = #[v0, v1] := by cases args; simp_all
  obtain ⟨rfl, rfl⟩ := trodVars_none hV
  obtain ⟨a0, rfl, rfl, rfl, w0⟩ := open_int Tryd.underlying3 (hval 0 3 v0 rfl rfl) h0
  obtain ⟨a1, rfl, rfl, rfl, w1⟩ := open_int Tryd.underlying3 (hval 1 3 v1 rfl rfl) h1
  clear hA0 hval0
  simp only [List.append_nil] at hW'
  refine (walk a0 a1 w0 w1 W (table hL)).mono fun e W' ⟨he, hg⟩ => ?_
  subst he
  exact ⟨_, rfl, post_of_same (pa := []) (pv := []) hW' (fun _ _ _ => (trodAll_cons_mk (shut_bool Tryd.underlying4 _) trodAll_mk0)) (fun sp _ => (trodAll_cons_mk (shut_int Tryd.underlying3 w0) (trodAll_cons_mk (shut_int Tryd.underlying3 w1) trodAll_mk0))) (fun _ _ => rfl) rfl
    (hg.frame _) hg.2.1 (ok_one (by kernel_rfl) rfl (okWide_bool_mk Tryd.underlying4 _))⟩

/-- A world for the witness: the settled one, the listed variable (block 0) holding what its initialiser lays. -/
noncomputable def laidWorld (os : Os) : World :=
  { World.holding Tryd.prog os ⟨#[], #[], []⟩ with heap := (World.holding Tryd.prog os ⟨#[], #[], []⟩).heap.modify 0 fun
      | .cells _ t frozen => .cells #[.string ⟨#[]⟩, .string ⟨#[]⟩, .string ⟨#[]⟩, .string ⟨#[]⟩, .string ⟨#[]⟩, .string ⟨#[]⟩, .string ⟨#[]⟩, .string ⟨#[]⟩, .string ⟨#[]⟩, .string ⟨#[]⟩, .string ⟨#[]⟩, .string ⟨#[]⟩, .string ⟨#[]⟩, .string ⟨#[]⟩, .string ⟨#[]⟩, .string ⟨#[]⟩, .string ⟨#[]⟩, .string ⟨#[]⟩, .string ⟨#[]⟩, .string ⟨#[]⟩, .string ⟨#[]⟩, .string ⟨#[]⟩, .string ⟨#[]⟩, .string ⟨#[]⟩, .string ⟨#[]⟩, .string ⟨#[]⟩, .string ⟨#[]⟩, .string ⟨#[]⟩, .string ⟨#[]⟩, .string ⟨#[]⟩, .string ⟨#[]⟩, .string ⟨#[]⟩, .string ⟨#[]⟩, .string ⟨#[]⟩, .string ⟨#[]⟩, .string ⟨#[]⟩, .string ⟨#[]⟩, .string ⟨#[]⟩, .string ⟨#[]⟩, .string ⟨#[]⟩, .string ⟨#[114, 45, 45, 110]⟩, .string ⟨#[114, 114, 45, 45]⟩, .string ⟨#[116, 45, 45, 45]⟩, .string ⟨#[114, 116, 45, 45]⟩, .string ⟨#[114, 45, 45, 110]⟩, .string ⟨#[45, 45, 45, 45]⟩, .string ⟨#[]⟩, .string ⟨#[]⟩, .string ⟨#[]⟩, .string ⟨#[]⟩, .string ⟨#[114, 118, 45, 45]⟩, .string ⟨#[118, 114, 45, 45]⟩, .string ⟨#[111, 97, 114, 45]⟩, .string ⟨#[114, 97, 114, 119]⟩, .string ⟨#[97, 114, 45, 45]⟩, .string ⟨#[108, 45, 45, 45]⟩, .string ⟨#[108, 45, 45, 45]⟩, .string ⟨#[114, 108, 45, 45]⟩, .string ⟨#[99, 114, 45, 45]⟩, .string ⟨#[111, 99, 111, 45]⟩, .string ⟨#[99, 45, 45, 45]⟩, .string ⟨#[115, 45, 45, 45]⟩, .string ⟨#[111, 102, 112, 45]⟩, .string ⟨#[114, 45, 45, 45]⟩, .string ⟨#[45, 45, 45, 45]⟩, .string ⟨#[114, 45, 45, 110]⟩] t frozen
      | o => o }
theorem laid_met (os : Os) : laidMet Tryd.prog Rows.progFormsRow.laid ((laidWorld os).forCall (fun _ _ => 0) ⟨#[], #[.int .i64 0, .int .i64 0], []⟩).memory :=
  laidMet_of_run' 8 (by kernel_rfl) (by kernel_rfl)
theorem reads (os : Os) {H : Type} (enc : TypeId × Value → H) : ∃ places, DataW.whole enc Tryd.prog ((laidWorld os).forCall (fun _ _ => 0) ⟨#[], #[.int .i64 0, .int .i64 0], []⟩).memory Tryd.f4.params.toList Rows.progFormsSpec.vars false (#[.int .i64 0, .int .i64 0] : Array Value).toList 8 = some ([.lit (.int .i64 0), .lit (.int .i64 0)], [], places) :=
  ⟨[], by kernel_rfl⟩

set_option maxRecDepth 100000 in
theorem lifted (os : Os) (started : os.Started) (H : Type) (enc : TypeId × Value → H) (F : Stop.Interp) :
    ReturnsInHanded {} Tryd.checked os 4 .any ((OpenSpec.ofChange Rows.progFormsSpec).preRow enc Tryd.prog Tryd.f4 Rows.progFormsRow.domain false Rows.progFormsRow.laid) (((OpenSpec.ofChange Rows.progFormsSpec).at F).post enc Tryd.prog Tryd.f4 false true false false) := by
  obtain ⟨places, hx⟩ := reads os enc
  refine returnsInHanded_of_row (C := Tryd.checked) (s := OpenSpec.ofChange Rows.progFormsSpec) own started (by kernel_rfl) Tryd.func4
    (witness_row_at (enc := enc) (C := Tryd.checked) false (laidWorld os) #[.int .i64 0, .int .i64 0] rfl (by kernel_rfl) (by kernel_rfl) (by kernel_rfl)
      (OpenSpec.preRow_of_cond 8 hx (by kernel_rfl) (fun k hk => by cases hk) (by kernel_rfl) (laid_met os))) ?_
  intro W base args ds gs before hval hW _ _ _ hL _ _
  exact contract H enc W base args ds gs before hval hW hL

theorem said : Rows.ProgFormsSaid :=
  OpenClaim.holds_of_cond 4 Tryd.f4 rfl rfl rfl rfl rfl rfl rfl ⟨rfl, rfl, rfl, rfl, rfl⟩ rfl rfl rfl rfl rfl (by kernel_rfl) Tryd.func4 (by kernel_rfl)
    (of_decide_eq_true (by kernel_rfl)) (by unfold Func.isWrapper; first | (rw [if_pos (by decide +kernel)]; kernel_rfl) | (rw [if_neg (by decide +kernel)]; exact ⟨rfl, rfl⟩))
    (fun os started H enc _ F => by rw [OpenClaim.pre_eq_preRow]; exact lifted os started H enc F)

theorem plain (f : FuncId) (fn : Func) (hf : Tryd.pinned.checked.prog.funcNamed "scarab/scarablaw03.ProgForms" = some f) (hfn : Tryd.pinned.checked.prog.funcs[f]? = some fn) :
    false = Tryd.pinned.checked.prog.looks [] ∧ ∀ (j : Nat) t, fn.params[j]? = some t → Tryd.pinned.checked.prog.wantsStandIn t = false := by
  obtain rfl : f = 4 := Option.some.inj ((show Tryd.prog.funcNamed "scarab/scarablaw03.ProgForms" = some 4 by kernel_rfl).symm.trans hf) |>.symm
  obtain rfl : fn = Tryd.f4 := (Option.some.inj (Tryd.func4.symm.trans hfn)).symm
  refine ⟨by kernel_rfl, fun j t ht => ?_⟩
  rw [Tryd.params4] at ht
  obtain rfl : t = 3 := by simpa using Array.mem_of_getElem? ht
  exact (show Tryd.prog.wantsStandIn 3 = false by kernel_rfl)

theorem card : Rows.ProgFormsCardSaid :=
  Claim7.holds_tied_plain_at .later [] _ _ _ _ said (fun _ h => by cases h) (by kernel_rfl) (fun _ h => by cases h) progForms_row_tie rfl ⟨rfl, rfl⟩ (by kernel_rfl) rfl plain (by kernel_rfl)
end Go.Proofs.YtfhcenabelfgpaaDoor.progForms
namespace Go.Proofs.YtfhcenabelfgpaaDoor
theorem progForms_card_holds : Rows.ProgFormsCardSaid := progForms.card
#print axioms progForms_card_holds
end Go.Proofs.YtfhcenabelfgpaaDoor
