/- The contracts of package prog's looks at parameters of a spawn, and at whole instructions. -/
import Derived.Test.YtaghfahhfockkaaDoorChk3
import Derived.Deep.RegionHeld3
import Derived.Deep.DrawnRows
namespace Go.Proofs.YtaghfahhfockkaaDoor.pg
open Go.ChangeShapes Go.WideShapes Go.ChangeAt Go.RowKit
set_option linter.unusedVariables false
set_option linter.unusedSimpArgs false
set_option maxRecDepth 100000
section
variable (M : MPr) (f : MFn) (i : Ins) (x : Int) (w : World) (r : Int) (l : Int)
theorem op_p (k : Nat) (y : MFn) (hk : i.b = (k : Int)) (hy : M.fns[k]? = some y) (hl : M.lies w) (hw : i.wf) (h0 : 0 ≤ f.regs) (h8 : f.regs ≤ 8) (hr : Hid (opE M f i x 112 = r)) :
    Calls Tryd.prog 85 #[M.val, f.val, i.val, .int .u8 112, .int .i64 x] w fun e w' => e = .returned (.int .i64 r) ∧ Below w.heap.size w w' := by
  have hlt : k < M.fns.length := (List.getElem?_eq_some_iff.mp hy).1
  have hp : M.pr.par i.b = y.params := by rw [hk]; simp [Pr.par, MPr.pr, MFn.fn, hy]
  have hb1 := boxed w (objP M)
  have hb2 := boxed (w.alloc (objP M)) (objF f)
  have hb3 := boxed ((w.alloc (objP M)).alloc (objF f)) (objI i)
  have hb := boxed3 w (objP M) (objF f) (objI i)
  obtain ⟨p0, p1, p2, p3⟩ := ((boxP_new w M).later hb2).later hb3
  have bF := (boxF_new (w.alloc (objP M)) f).later hb3
  have bI := boxI_new ((w.alloc (objP M)).alloc (objF f)) i
  simp only [World.size_alloc] at bF bI
  obtain ⟨f0, f1, f2, f3⟩ := bF
  obtain ⟨i0, i1, i2, i3, i4⟩ := bI
  obtain ⟨b, o, hix, hbl, c0, c1, c2, c3⟩ := fn_ix (hl.later hb).2.2.1 k y hy
  rw [← hk] at hix
  have hyp : I64 y.params := (hl.2.2.2.2.2.2 y (List.mem_of_getElem? hy)).2.2.2.2.1
  have hic : I64 i.c := hw.2.2.2.1
  obtain ⟨rb, hrb⟩ : ∃ rb, Hid (decide (roomP y.params i.c f.regs) = rb) := ⟨_, rfl⟩
  have hv : Hid (r = if rb = true then 0 else 35) := hr.out.symm.trans (by
    simp only [opE, opndE, Int.reduceEq, false_and, false_or, or_false, true_or, or_true, if_false, if_true, hp]
    rw [← hrb.out]
    simp only [decide_eq_true_eq])
  have hR : ∀ wx, Calls Tryd.prog 99 #[.int .i64 y.params, .int .i64 i.c, .int .i64 f.regs] wx _ := fun wx => roomFor_any y.params i.c f.regs wx hyp hic h0 h8 rb hrb
  clear hb1 hb2 hb3 hl hw hy hp hyp hic hr
  have hbI : 0 ≤ i.b ∧ i.b < (M.fns.length : Int) := by omega
  clear hk hlt
  go_enter Tryd.func85, Tryd.ntmps85
  go_wp2_with fail
  generalize ((w.alloc (objP M)).alloc (objF f)).alloc (objI i) = W at *
  cases rb with
  | true =>
    go_quiet (first | (go_at_call 99; exact Calls.quiet_of_same (hR _)) | (go_at_call 98; exact Calls.quiet_of_same (unless_t _ _)))
    go_wp2
    go_ret
    exact ⟨ret_i hv.out.symm, below_drewN hb _⟩
  | false =>
    go_quiet (first | (go_at_call 99; exact Calls.quiet_of_same (hR _)) | (go_at_call 98; exact Calls.quiet_of_same (unless_f _ _)))
    go_wp2
    go_ret
    exact ⟨ret_i hv.out.symm, below_drewN hb _⟩
theorem op_else (h1 : ¬ l = 111) (h2 : ¬ l = 114) (h3 : ¬ l = 119) (h4 : ¬ l = 112) (h5 : ¬ l = 97) (h6 : ¬ l = 118) (h7 : ¬ l = 108) (h8 : ¬ l = 99) (h9 : ¬ l = 115) (h10 : ¬ l = 102) (h11 : ¬ l = 116) (hr : Hid (opE M f i x l = r)) :
    Calls Tryd.prog 85 #[M.val, f.val, i.val, .int .u8 l, .int .i64 x] w fun e w' => e = .returned (.int .i64 r) ∧ Below w.heap.size w w' := by
  have hv : Hid (r = 0) := hr.out.symm.trans (by simp only [opE, opndE, h1, h2, h3, h4, h5, h6, h7, h8, h9, h10, h11, false_and, or_self, if_false])
  go_enter Tryd.func85, Tryd.ntmps85
  go_wp2
  go_ret
  exact ⟨ret_i hv.out.symm, boxed3 _ _ _ _⟩
/-- Every operand, whatever its letter. -/
theorem checkOperand_any (hl : M.lies w) (hw : i.wf) (h0 : 0 ≤ f.regs) (h8 : f.regs ≤ 8) (hp : l = 112 → 0 ≤ i.b ∧ i.b < (M.fns.length : Int)) (hr : Hid (opE M f i x l = r)) :
    Calls Tryd.prog 85 #[M.val, f.val, i.val, .int .u8 l, .int .i64 x] w fun e w' => e = .returned (.int .i64 r) ∧ Below w.heap.size w w' := by
  by_cases l1 : l = 111
  · subst l1
    by_cases hx : x = -1
    · exact op_o_none M f i x w r hx hr
    by_cases h : 0 ≤ x ∧ x < f.regs
    · exact op_o_t M f i x w r hx h hr
    · exact op_o_f M f i x w r hx h hr
  by_cases l2 : l = 114
  · subst l2
    by_cases h : 0 ≤ x ∧ x < f.regs
    · exact op_r_t M f i x w r h hr
    · exact op_r_f M f i x w r h hr
  by_cases l3 : l = 119
  · subst l3
    by_cases h : 0 ≤ x ∧ x < f.regs
    · exact op_w_t M f i x w r h hr
    · exact op_w_f M f i x w r h hr
  by_cases l4 : l = 112
  · subst l4
    have hb := hp rfl
    obtain ⟨y, hy, _⟩ := get_lt M.fns i.b.toNat (by omega)
    exact op_p M f i x w r i.b.toNat y (by omega) hy hl hw h0 h8 hr
  by_cases l5 : l = 97
  · subst l5
    by_cases h : 0 ≤ x ∧ x < (M.vars.length : Int)
    · obtain ⟨y, hy, _⟩ := get_lt M.vars x.toNat (by omega)
      exact op_a_t M f i x w r x.toNat y (by omega) hy hl hr
    · exact op_a_f M f i x w r h hr
  by_cases l6 : l = 118
  · subst l6
    by_cases h : 0 ≤ x ∧ x < (M.vars.length : Int)
    · exact op_v_t M f i x w r h hr
    · exact op_v_f M f i x w r h hr
  by_cases l7 : l = 108
  · subst l7
    by_cases h : 0 ≤ x ∧ x < M.locks
    · exact op_l_t M f i x w r h hr
    · exact op_l_f M f i x w r h hr
  by_cases l8 : l = 99
  · subst l8
    by_cases h : 0 ≤ x ∧ x < (M.chans.length : Int)
    · exact op_c_t M f i x w r h hr
    · exact op_c_f M f i x w r h hr
  by_cases l9 : l = 115
  · subst l9
    by_cases h : 0 ≤ x ∧ x < (f.sels.length : Int)
    · exact op_s_t M f i x w r h hr
    · exact op_s_f M f i x w r h hr
  by_cases l10 : l = 102
  · subst l10
    by_cases h : 0 ≤ x ∧ x < (M.fns.length : Int)
    · exact op_f_t M f i x w r h hr
    · exact op_f_f M f i x w r h hr
  by_cases l11 : l = 116
  · subst l11
    by_cases h : 0 ≤ x ∧ x < (f.code.length : Int)
    · exact op_t_t M f i x w r h hr
    · exact op_t_f M f i x w r h hr
  exact op_else M f i x w r l l1 l2 l3 l4 l5 l6 l7 l8 l9 l10 l11 hr
end
/-- The form that is read is the form that is meant. -/
theorem frm_form (op : Int) : prog.frm op = ⟨((formOf op).map fun x => UInt8.ofNat x.toNat).toArray⟩ := by
  by_cases h : 0 ≤ op ∧ op < 66
  · obtain ⟨n, rfl⟩ : ∃ n : Nat, op = (n : Int) := ⟨op.toNat, by omega⟩
    have key : ∀ n : Fin 66, (prog.frm ((n.val : Nat) : Int)).data.toList = (formOf ((n.val : Nat) : Int)).map fun x => UInt8.ofNat x.toNat := by decide
    have := key ⟨n, by omega⟩
    apply ByteArray.ext
    rw [← this]
  · have h1 : formOf op = [] := by
      unfold formOf
      repeat rw [if_neg (by omega)]
    rw [h1]
    unfold prog.frm
    by_cases h2 : op < 0
    · rw [if_pos h2]; rfl
    · rw [if_neg h2, if_neg (by omega), if_neg (by omega), if_neg (by omega)]; rfl
end Go.Proofs.YtaghfahhfockkaaDoor.pg
