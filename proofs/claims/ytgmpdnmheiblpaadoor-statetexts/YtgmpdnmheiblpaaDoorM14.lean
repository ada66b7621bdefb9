/- StateTexts, walked. -/
import Derived.Test.YtgmpdnmheiblpaaDoorM13
namespace Go.Proofs.YtgmpdnmheiblpaaDoor.pg
open Go.ChangeShapes Go.WideShapes Go.ChangeAt Go.RowKit
set_option linter.unusedVariables false
set_option linter.unusedSimpArgs false
set_option maxRecDepth 100000
attribute [local go_sem ↓] Go.wp_at_zero Go.wp_at_succ
theorem run_value_of {P : Program} {m : Sem Value} {v : Value} {w w' : World} (h : m.run P w = .ok v w') : (m.bind fun x => pure (.value x) : Sem Next).run P w = .ok (.value v) w' := by
  show (m >>= fun x => pure (Next.value x)).run P w = _
  rw [Sem.run_bind, h]
  rfl
theorem bytes_beqK (a b : ByteArray) : (a.toList == b.toList) = true ↔ a = b := by
  rw [beq_iff_eq]
  constructor
  · intro h
    have ha : a.toList = a.data.toList := Lib.toList_data _
    have hb : b.toList = b.data.toList := Lib.toList_data _
    have h2 : a.data.toList = b.data.toList := ha.symm.trans (h.trans hb)
    cases a
    cases b
    simp only at h2
    rw [Array.toList_inj.mp h2]
  · intro h; rw [h]
theorem guard_strT (A B : ByteArray) (R : Bool) (hR : R = true ↔ A = B) (p q : Operand) (w : World) : ((do
    eqGuard .eql 9 p q (.string A) (.string B)
    binOp .eql 9 (.string A) (.string B)) : Sem Value).run Tryd.prog w = .ok (.bool R) w := by
  have u := Tryd.underlying9
  have e : (A.toList == B.toList) = R := by rw [Bool.eq_iff_iff, bytes_beqK, hR]
  simp [eqGuard, binOp, run_underlying u, go_sem, Op.stringOp, e]
theorem guard_boolT (A : Bool) (p q : Operand) (w : World) : ((do
    eqGuard .eql 4 p q (.bool A) (.bool A)
    binOp .eql 4 (.bool A) (.bool A)) : Sem Value).run Tryd.prog w = .ok (.bool true) w := by
  have h : (binOp .eql 4 (.bool A) (.bool A)).run Tryd.prog w = .ok (.bool true) w := by cases A <;> kernel_rfl
  simp [eqGuard, go_sem, h]
theorem guard_stT {x y : Sts} (hx : x.wf) (hy : y.wf) (R : Bool) (hR : R = true ↔ x = y) (p q : Operand) (w : World) : ((do
    eqGuard .eql 38 p q (.agg x.cells.toArray) (.agg y.cells.toArray)
    binOp .eql 38 (.agg x.cells.toArray) (.agg y.cells.toArray)) : Sem Value).run Tryd.prog w = .ok (.bool R) w := by
  have hm : Tryd.prog.eqGuardType Tryd.prog.depth 38 = false := by kernel_rfl
  simp only [Sem.run_bind, run_eqGuard_agg (P := Tryd.prog) w .eql 38 p q _ _ hm, Result.andThen_ok]
  exact eql_st hx hy R hR w
section
variable {H : Type} {enc : TypeId × Value → H} {w : World} {base : Nat} {spare : Nat → Bool} {held : Bool}
/-- A state that came in. -/
theorem st_arg {n : Nat} {cs : List Value} {y : DataW H × List MemPlace} (h : DataW.trod enc Tryd.prog w base spare held n 38 cs = some y) : ∃ x : Sts, Value.agg cs.toArray = x.val ∧ x.wf := by
  have hl : cs.length = 121 := by
    obtain ⟨xs, m, _, _, hl, _⟩ := DataW.trod_struct Tryd.underlying38 h
    rw [hl]
    kernel_rfl
  obtain ⟨x, rfl, hw⟩ := st_in hl h
  exact ⟨x, rfl, hw⟩
end
theorem in_range {w : World} {B : Nat} {s : Sts} (h : InS w B s) : w.rangeAt B 0 s.cells := range_of h (a := []) (c := []) (by simp) rfl
theorem sameIntsT (l : List Int) (a b : Option Addr) (ca cb : Nat) (w : World) (ha : Rows w 1 a ca (l.map chCells)) (hb : Rows w 1 b cb (l.map chCells)) :
    Calls Tryd.prog 10 #[.slice a l.length ca, .slice b l.length cb] w fun e w' => e = .returned (.bool true) ∧ Below w.heap.size w w' := by
  have hlI : (l.length : Int) ≤ 9223372036854775807 := rows_len ha
  go_enter Tryd.func10, Tryd.ntmps10
  go_wp2_with fail
  go_loopw [13] (fun u wr => ∃ k : Nat, k ≤ l.length ∧ u = .int .i64 k ∧ Below w.heap.size w wr) (fun u _ => l.length - (intOf u).toNat)
  case atStart => exact ⟨0, Nat.zero_le _, rfl, Below.refl _ _⟩
  case round =>
    obtain ⟨k, hk, rfl, hbe⟩ := hrel
    by_cases hlt : k < l.length
    · obtain ⟨y, hy, hym⟩ := get_lt l k hlt
      obtain ⟨b1, o1, hix1, hbl1, c1⟩ := ch_ix (ha.later hbe) k y hy
      obtain ⟨b2, o2, hix2, hbl2, c2⟩ := ch_ix (hb.later hbe) k y hy
      have hkI : (k : Int) < l.length := by omega
      go_wp2_with fail
      go_quiet (fail)
      go_wp2
      go_roundw
      case rel => exact ⟨k + 1, by omega, by go_num, below_drewN hbe _⟩
      case measure => simp [intOf]; omega
    · have hk2 : k = l.length := by omega
      subst hk2
      go_wp2
      go_ret
      exact ⟨rfl, hbe⟩
set_option maxHeartbeats 8000000 in
theorem textsT_any (s t : Sts) (w : World) (hs : s.wf) (ht : t.wf) (hT : Tab w) : Calls Tryd.prog 4 #[s.val, t.val] w fun e w' => e = .returned (.bool true) ∧ Below w.heap.size w w' := by
  have hb2 : Hid (Below w.heap.size w ((w.alloc (objSt s)).alloc (objSt t))) := boxed2 _ _ _
  have hSs : Hid (InS ((w.alloc (objSt s)).alloc (objSt t)) w.heap.size s) := (inS_new w s).later (boxed _ _)
  have hSt : Hid (InS ((w.alloc (objSt s)).alloc (objSt t)) (w.heap.size + 1) t) := by (have := inS_new (w.alloc (objSt s)) t; rw [World.size_alloc] at this; exact this)
  have hTH : Hid (Tab w) := hT
  have hsw : Hid s.wf := hs
  have htw : Hid t.wf := ht
  have iS : Hid ((Tryd.prog.info? 38).map (·.size) = some s.cells.length) := (by have := infoS hs; rw [List.size_toArray] at this; exact this)
  have iT : Hid ((Tryd.prog.info? 38).map (·.size) = some t.cells.length) := (by have := infoS ht; rw [List.size_toArray] at this; exact this)
  obtain ⟨R, hR⟩ : ∃ R : Bool, Hid (R = true ↔ s = t) := by
    by_cases h : s = t
    · exact ⟨true, ⟨fun _ => h, fun _ => rfl⟩⟩
    · exact ⟨false, ⟨(fun q => by cases q), fun q => absurd q h⟩⟩
  have hRT : Hid (R = true ↔ (⟨(txB s.nums).toArray⟩ : ByteArray) = ⟨(txB t.nums).toArray⟩) := by
    show _ ↔ _
    rw [hR.out, ← text_iff hs ht]
    constructor
    · intro q; rw [q]
    · intro q; simpa using q
  clear hs ht hT
  go_enter Tryd.func4, Tryd.ntmps4
  go_upto_region 1 with fail
  try simp only [World.size_alloc]
  change Code.wp _ _ _ _ ((w.alloc (objSt s)).alloc (objSt t))
  generalize (w.alloc (objSt s)).alloc (objSt t) = V at *
  have hS : Hid (Below V.heap.size V V.drew) := bey_drew V
  have hlV : Hid (w.heap.size + 1 < V.heap.size) := hSt.out.lt
  have rs : ∀ W, Below V.heap.size V W → W.rangeAt w.heap.size 0 s.cells := fun W h => in_range (hSs.out.later h)
  have rt : ∀ W, Below V.heap.size V W → W.rangeAt (w.heap.size + 1) 0 t.cells := fun W h => in_range (hSt.out.later h)
  have hTV : Hid (∀ W, Below V.heap.size V W → Tab W) := fun W h => hTH.out.later (bthen hb2.out h)
  clear hSs hSt
  refine wp_region_held_drew (S := fun w' => Below V.heap.size V w') (by kernel_rfl) hS.out (fun _ => ?_)
  refine reg_load (i := 0) rfl (by kernel_rfl) (by kernel_rfl) (by kernel_rfl) (fun _ _ _ _ h => h) rfl 38 _ rfl w.heap.size 0 rfl s.cells _ rs Tryd.underlying38 rfl iS.out hS.out ?_
  simp only [Act.put, List.getElem_toArray, List.getElem_cons_succ, List.getElem_cons_zero, List.setIfInBounds_toArray, List.set_cons_zero, List.set_cons_succ]
  refine reg_load (i := 2) rfl (by kernel_rfl) (by kernel_rfl) (by kernel_rfl) (fun _ _ _ _ h => h) rfl 38 _ rfl w.heap.size 0 rfl s.cells _ rs Tryd.underlying38 rfl iS.out hS.out ?_
  simp only [Act.put, List.getElem_toArray, List.getElem_cons_succ, List.getElem_cons_zero, List.setIfInBounds_toArray, List.set_cons_zero, List.set_cons_succ]
  refine reg_call1 (i := 1) (by kernel_rfl) rfl rfl 11 _ _ rfl s.val rfl (cf_fn Tryd.func11 (by kernel_rfl) (by kernel_rfl) _ _) _ (slive_any s hsw.out _) ?_
  rintro e1 w1 ⟨la, lc, rfl, hl1, hb1⟩
  have hS1 : Hid (Below V.heap.size V w1) := bthen hS.out hb1
  refine ⟨_, rfl, hS1.out, fun _ => ?_⟩
  simp only [Act.put, List.getElem_toArray, List.getElem_cons_succ, List.getElem_cons_zero, List.setIfInBounds_toArray, List.set_cons_zero, List.set_cons_succ]
  refine reg_call1 (i := 3) (by kernel_rfl) rfl rfl 12 _ _ rfl s.val rfl (cf_fn Tryd.func12 (by kernel_rfl) (by kernel_rfl) _ _) _ (rlive_any s hsw.out _) ?_
  rintro e2 w2 ⟨ma, mc, rfl, hl2, hb2'⟩
  have hS2 : Hid (Below V.heap.size V w2) := bthen hS1.out hb2'
  refine ⟨_, rfl, hS2.out, fun _ => ?_⟩
  simp only [Act.put, List.getElem_toArray, List.getElem_cons_succ, List.getElem_cons_zero, List.setIfInBounds_toArray, List.set_cons_zero, List.set_cons_succ]
  generalize lvL s.gos 6 = LV at *
  refine reg_call2 (i := 4) (by kernel_rfl) rfl rfl 10 _ _ _ _ rfl (.slice la LV.length lc) (.slice ma LV.length mc) rfl rfl (cf_fn Tryd.func10 (by kernel_rfl) (by kernel_rfl) _ _) _ (sameIntsT LV la ma lc mc w2 (hl1.later hb2') hl2) ?_
  rintro e3 w3 ⟨rfl, hb3⟩
  have hS3 : Hid (Below V.heap.size V w3) := bthen hS2.out hb3
  refine ⟨_, rfl, hS3.out, fun _ => ?_⟩
  simp only [Act.put, List.getElem_toArray, List.getElem_cons_succ, List.getElem_cons_zero, List.setIfInBounds_toArray, List.set_cons_zero, List.set_cons_succ]
  refine reg_move (i := 5) rfl (by kernel_rfl) (by kernel_rfl) (by kernel_rfl) (fun _ _ _ _ h => h) rfl (.bool true) (fun _ => rfl) hS3.out ?_
  simp only [Act.put, List.getElem_toArray, List.getElem_cons_succ, List.getElem_cons_zero, List.setIfInBounds_toArray, List.set_cons_zero, List.set_cons_succ]
  refine reg_load (i := 6) rfl (by kernel_rfl) (by kernel_rfl) (by kernel_rfl) (fun _ _ _ _ h => h) rfl 38 _ rfl w.heap.size 0 rfl s.cells _ rs Tryd.underlying38 rfl iS.out hS3.out ?_
  simp only [Act.put, List.getElem_toArray, List.getElem_cons_succ, List.getElem_cons_zero, List.setIfInBounds_toArray, List.set_cons_zero, List.set_cons_succ]
  refine reg_load (i := 8) rfl (by kernel_rfl) (by kernel_rfl) (by kernel_rfl) (fun _ _ _ _ h => h) rfl 38 _ rfl w.heap.size 0 rfl s.cells _ rs Tryd.underlying38 rfl iS.out hS3.out ?_
  simp only [Act.put, List.getElem_toArray, List.getElem_cons_succ, List.getElem_cons_zero, List.setIfInBounds_toArray, List.set_cons_zero, List.set_cons_succ]
  refine reg_call1 (i := 7) (by kernel_rfl) rfl rfl 13 _ _ rfl s.val rfl (cf_fn Tryd.func13 (by kernel_rfl) (by kernel_rfl) _ _) _ (stext_any s hsw.out _ (hTV.out _ hS3.out)) ?_
  rintro e4 w4 ⟨rfl, hb4⟩
  have hS4 : Hid (Below V.heap.size V w4) := bthen hS3.out hb4
  refine ⟨_, rfl, hS4.out, fun _ => ?_⟩
  simp only [Act.put, List.getElem_toArray, List.getElem_cons_succ, List.getElem_cons_zero, List.setIfInBounds_toArray, List.set_cons_zero, List.set_cons_succ]
  refine reg_call1 (i := 9) (by kernel_rfl) rfl rfl 14 _ _ rfl s.val rfl (cf_fn Tryd.func14 (by kernel_rfl) (by kernel_rfl) _ _) _ (rtext_any s hsw.out _ (hTV.out _ hS4.out)) ?_
  rintro e5 w5 ⟨rfl, hb5⟩
  have hS5 : Hid (Below V.heap.size V w5) := bthen hS4.out hb5
  refine ⟨_, rfl, hS5.out, fun _ => ?_⟩
  simp only [Act.put, List.getElem_toArray, List.getElem_cons_succ, List.getElem_cons_zero, List.setIfInBounds_toArray, List.set_cons_zero, List.set_cons_succ]
  refine reg_move (i := 10) rfl (by kernel_rfl) (by kernel_rfl) (by kernel_rfl) (fun _ _ _ _ h => h) rfl (.bool true) (fun wx => by unfold execOp; exact run_value_of (guard_strT ⟨(txB s.nums).toArray⟩ ⟨(txB s.nums).toArray⟩ true ⟨fun _ => rfl, fun _ => rfl⟩ _ _ wx)) hS5.out ?_
  simp only [Act.put, List.getElem_toArray, List.getElem_cons_succ, List.getElem_cons_zero, List.setIfInBounds_toArray, List.set_cons_zero, List.set_cons_succ]
  refine reg_move (i := 11) rfl (by kernel_rfl) (by kernel_rfl) (by kernel_rfl) (fun _ _ _ _ h => h) rfl (.bool true) (fun _ => rfl) hS5.out ?_
  simp only [Act.put, List.getElem_toArray, List.getElem_cons_succ, List.getElem_cons_zero, List.setIfInBounds_toArray, List.set_cons_zero, List.set_cons_succ]
  refine reg_move (i := 12) rfl (by kernel_rfl) (by kernel_rfl) (by kernel_rfl) (fun _ _ _ _ h => h) rfl (.bool true) (fun _ => rfl) hS5.out ?_
  simp only [Act.put, List.getElem_toArray, List.getElem_cons_succ, List.getElem_cons_zero, List.setIfInBounds_toArray, List.set_cons_zero, List.set_cons_succ]
  refine reg_load (i := 13) rfl (by kernel_rfl) (by kernel_rfl) (by kernel_rfl) (fun _ _ _ _ h => h) rfl 38 _ rfl w.heap.size 0 rfl s.cells _ rs Tryd.underlying38 rfl iS.out hS5.out ?_
  simp only [Act.put, List.getElem_toArray, List.getElem_cons_succ, List.getElem_cons_zero, List.setIfInBounds_toArray, List.set_cons_zero, List.set_cons_succ]
  refine reg_load (i := 15) rfl (by kernel_rfl) (by kernel_rfl) (by kernel_rfl) (fun _ _ _ _ h => h) rfl 38 _ rfl (w.heap.size + 1) 0 rfl t.cells _ rt Tryd.underlying38 rfl iT.out hS5.out ?_
  simp only [Act.put, List.getElem_toArray, List.getElem_cons_succ, List.getElem_cons_zero, List.setIfInBounds_toArray, List.set_cons_zero, List.set_cons_succ]
  refine reg_load (i := 18) rfl (by kernel_rfl) (by kernel_rfl) (by kernel_rfl) (fun _ _ _ _ h => h) rfl 38 _ rfl w.heap.size 0 rfl s.cells _ rs Tryd.underlying38 rfl iS.out hS5.out ?_
  simp only [Act.put, List.getElem_toArray, List.getElem_cons_succ, List.getElem_cons_zero, List.setIfInBounds_toArray, List.set_cons_zero, List.set_cons_succ]
  refine reg_load (i := 19) rfl (by kernel_rfl) (by kernel_rfl) (by kernel_rfl) (fun _ _ _ _ h => h) rfl 38 _ rfl (w.heap.size + 1) 0 rfl t.cells _ rt Tryd.underlying38 rfl iT.out hS5.out ?_
  simp only [Act.put, List.getElem_toArray, List.getElem_cons_succ, List.getElem_cons_zero, List.setIfInBounds_toArray, List.set_cons_zero, List.set_cons_succ]
  refine reg_move (i := 20) rfl (by kernel_rfl) (by kernel_rfl) (by kernel_rfl) (fun _ _ _ _ h => h) rfl (.bool R) (fun wx => by unfold execOp; exact run_value_of (guard_stT hsw.out htw.out R hR.out _ _ wx)) hS5.out ?_
  simp only [Act.put, List.getElem_toArray, List.getElem_cons_succ, List.getElem_cons_zero, List.setIfInBounds_toArray, List.set_cons_zero, List.set_cons_succ]
  refine reg_call1 (i := 14) (by kernel_rfl) rfl rfl 13 _ _ rfl s.val rfl (cf_fn Tryd.func13 (by kernel_rfl) (by kernel_rfl) _ _) _ (stext_any s hsw.out _ (hTV.out _ hS5.out)) ?_
  rintro e6 w6 ⟨rfl, hb6⟩
  have hS6 : Hid (Below V.heap.size V w6) := bthen hS5.out hb6
  refine ⟨_, rfl, hS6.out, fun _ => ?_⟩
  simp only [Act.put, List.getElem_toArray, List.getElem_cons_succ, List.getElem_cons_zero, List.setIfInBounds_toArray, List.set_cons_zero, List.set_cons_succ]
  refine reg_call1 (i := 16) (by kernel_rfl) rfl rfl 13 _ _ rfl t.val rfl (cf_fn Tryd.func13 (by kernel_rfl) (by kernel_rfl) _ _) _ (stext_any t htw.out _ (hTV.out _ hS6.out)) ?_
  rintro e7 w7 ⟨rfl, hb7⟩
  have hS7 : Hid (Below V.heap.size V w7) := bthen hS6.out hb7
  refine ⟨_, rfl, hS7.out, fun _ => ?_⟩
  simp only [Act.put, List.getElem_toArray, List.getElem_cons_succ, List.getElem_cons_zero, List.setIfInBounds_toArray, List.set_cons_zero, List.set_cons_succ]
  refine reg_move (i := 17) rfl (by kernel_rfl) (by kernel_rfl) (by kernel_rfl) (fun _ _ _ _ h => h) rfl (.bool R) (fun wx => by unfold execOp; exact run_value_of (guard_strT ⟨(txB s.nums).toArray⟩ ⟨(txB t.nums).toArray⟩ R hRT.out _ _ wx)) hS7.out ?_
  simp only [Act.put, List.getElem_toArray, List.getElem_cons_succ, List.getElem_cons_zero, List.setIfInBounds_toArray, List.set_cons_zero, List.set_cons_succ]
  refine reg_move (i := 21) rfl (by kernel_rfl) (by kernel_rfl) (by kernel_rfl) (fun _ _ _ _ h => h) rfl (.bool true) (fun wx => by unfold execOp; exact run_value_of (guard_boolT R _ _ wx)) hS7.out ?_
  simp only [Act.put, List.getElem_toArray, List.getElem_cons_succ, List.getElem_cons_zero, List.setIfInBounds_toArray, List.set_cons_zero, List.set_cons_succ]
  refine reg_move (i := 22) rfl (by kernel_rfl) (by kernel_rfl) (by kernel_rfl) (fun _ _ _ _ h => h) rfl (.bool true) (fun _ => rfl) hS7.out ?_
  simp only [Act.put, List.getElem_toArray, List.getElem_cons_succ, List.getElem_cons_zero, List.setIfInBounds_toArray, List.set_cons_zero, List.set_cons_succ]
  refine reg_move (i := 23) rfl (by kernel_rfl) (by kernel_rfl) (by kernel_rfl) (fun _ _ _ _ h => h) rfl (.bool true) (fun _ => rfl) hS7.out ?_
  simp only [Act.put, List.getElem_toArray, List.getElem_cons_succ, List.getElem_cons_zero, List.setIfInBounds_toArray, List.set_cons_zero, List.set_cons_succ]
  refine wpAnyH_done (by kernel_rfl) ?_ _
  have hE : Hid (Below w.heap.size w w7) := bthen hb2.out hS7.out
  clear rs rt hTV hlV
  go_wp2_with fail
  go_ret
  exact ⟨rfl, hE.out⟩
end Go.Proofs.YtgmpdnmheiblpaaDoor.pg

