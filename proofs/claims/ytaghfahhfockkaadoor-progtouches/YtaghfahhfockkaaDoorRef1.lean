/- The contracts of the document's own looks at operands. -/
import Derived.Test.YtaghfahhfockkaaDoorChk5
namespace Go.Proofs.YtaghfahhfockkaaDoor.pg
open Go.ChangeShapes Go.WideShapes Go.ChangeAt Go.RowKit
set_option linter.unusedVariables false
set_option linter.unusedSimpArgs false
set_option maxRecDepth 100000
theorem within_t (x n : Int) (w : World) (h : 0 ≤ x ∧ x < n) : Calls Tryd.prog 63 #[.int .i64 x, .int .i64 n] w fun e w' => e = .returned (.bool true) ∧ w' = w := by
  obtain ⟨h1, h2⟩ := h
  go_enter Tryd.func63, Tryd.ntmps63
  go_wp2
  go_ret
  exact ⟨rfl, rfl⟩
theorem within_f (x n : Int) (w : World) (h : x < 0 ∨ n ≤ x) : Calls Tryd.prog 63 #[.int .i64 x, .int .i64 n] w fun e w' => e = .returned (.bool false) ∧ w' = w := by
  by_cases h1 : 0 ≤ x
  · have h2 : ¬ x < n := by omega
    go_enter Tryd.func63, Tryd.ntmps63
    go_wp2
    go_ret
    exact ⟨rfl, rfl⟩
  · clear h
    go_enter Tryd.func63, Tryd.ntmps63
    go_wp2
    go_ret
    exact ⟨rfl, rfl⟩
section
variable (M : MPr) (f : MFn) (i : Ins) (x : Int) (w : World) (r : Int) (l : Int)
abbrev opR (l : Int) : Int := opndE (roomR (M.pr.par i.b) x f.regs) M.pr f.fn l x
theorem rop_r_t (h : 0 ≤ x ∧ x < f.regs) (hr : Hid (opR M f i x 114 = r)) : Calls Tryd.prog 67 #[M.val, f.val, .int .u8 114, .int .i64 x, i.val] w fun e w' => e = .returned (.int .i64 r) ∧ Below w.heap.size w w' := by
  have hv : Hid (r = 0) := hr.out.symm.trans (by
    have h' : inR x f.fn.regs := h
    simp only [opR, opndE, Int.reduceEq, false_and, false_or, or_false, true_or, or_true, if_false, if_true, if_pos h'])
  go_enter Tryd.func67, Tryd.ntmps67
  go_wp2_with (go_at_call 63; (with_reducible refine (within_t _ _ _ (by omega)).mono ?_); rintro e w' ⟨rfl, rfl⟩)
  go_ret
  exact ⟨ret_i hv.out.symm, boxed3 _ _ _ _⟩
theorem rop_r_f (h : ¬ (0 ≤ x ∧ x < f.regs)) (hr : Hid (opR M f i x 114 = r)) : Calls Tryd.prog 67 #[M.val, f.val, .int .u8 114, .int .i64 x, i.val] w fun e w' => e = .returned (.int .i64 r) ∧ Below w.heap.size w w' := by
  have hv : Hid (r = 35) := hr.out.symm.trans (by
    have h' : ¬ inR x f.fn.regs := h
    simp only [opR, opndE, Int.reduceEq, false_and, false_or, or_false, true_or, or_true, if_false, if_true, if_neg h'])
  go_enter Tryd.func67, Tryd.ntmps67
  go_wp2_with (go_at_call 63; (with_reducible refine (within_f _ _ _ (by omega)).mono ?_); rintro e w' ⟨rfl, rfl⟩)
  go_ret
  exact ⟨ret_i hv.out.symm, boxed3 _ _ _ _⟩
theorem rop_w_t (h : 0 ≤ x ∧ x < f.regs) (hr : Hid (opR M f i x 119 = r)) : Calls Tryd.prog 67 #[M.val, f.val, .int .u8 119, .int .i64 x, i.val] w fun e w' => e = .returned (.int .i64 r) ∧ Below w.heap.size w w' := by
  have hv : Hid (r = 0) := hr.out.symm.trans (by
    have h' : inR x f.fn.regs := h
    simp only [opR, opndE, Int.reduceEq, false_and, false_or, or_false, true_or, or_true, if_false, if_true, if_pos h'])
  go_enter Tryd.func67, Tryd.ntmps67
  go_wp2_with (go_at_call 63; (with_reducible refine (within_t _ _ _ (by omega)).mono ?_); rintro e w' ⟨rfl, rfl⟩)
  go_ret
  exact ⟨ret_i hv.out.symm, boxed3 _ _ _ _⟩
theorem rop_w_f (h : ¬ (0 ≤ x ∧ x < f.regs)) (hr : Hid (opR M f i x 119 = r)) : Calls Tryd.prog 67 #[M.val, f.val, .int .u8 119, .int .i64 x, i.val] w fun e w' => e = .returned (.int .i64 r) ∧ Below w.heap.size w w' := by
  have hv : Hid (r = 35) := hr.out.symm.trans (by
    have h' : ¬ inR x f.fn.regs := h
    simp only [opR, opndE, Int.reduceEq, false_and, false_or, or_false, true_or, or_true, if_false, if_true, if_neg h'])
  go_enter Tryd.func67, Tryd.ntmps67
  go_wp2_with (go_at_call 63; (with_reducible refine (within_f _ _ _ (by omega)).mono ?_); rintro e w' ⟨rfl, rfl⟩)
  go_ret
  exact ⟨ret_i hv.out.symm, boxed3 _ _ _ _⟩
theorem rop_o_t (hx : ¬ x = -1) (h : 0 ≤ x ∧ x < f.regs) (hr : Hid (opR M f i x 111 = r)) : Calls Tryd.prog 67 #[M.val, f.val, .int .u8 111, .int .i64 x, i.val] w fun e w' => e = .returned (.int .i64 r) ∧ Below w.heap.size w w' := by
  have hv : Hid (r = 0) := hr.out.symm.trans (by
    have h' : inR x f.fn.regs := h
    simp only [opR, opndE, hx, and_false, Int.reduceEq, false_and, false_or, or_false, true_or, or_true, if_false, if_true, if_pos h'])
  go_enter Tryd.func67, Tryd.ntmps67
  go_wp2_with (go_at_call 63; (with_reducible refine (within_t _ _ _ (by omega)).mono ?_); rintro e w' ⟨rfl, rfl⟩)
  go_ret
  exact ⟨ret_i hv.out.symm, boxed3 _ _ _ _⟩
theorem rop_o_f (hx : ¬ x = -1) (h : ¬ (0 ≤ x ∧ x < f.regs)) (hr : Hid (opR M f i x 111 = r)) : Calls Tryd.prog 67 #[M.val, f.val, .int .u8 111, .int .i64 x, i.val] w fun e w' => e = .returned (.int .i64 r) ∧ Below w.heap.size w w' := by
  have hv : Hid (r = 35) := hr.out.symm.trans (by
    have h' : ¬ inR x f.fn.regs := h
    simp only [opR, opndE, hx, and_false, Int.reduceEq, false_and, false_or, or_false, true_or, or_true, if_false, if_true, if_neg h'])
  go_enter Tryd.func67, Tryd.ntmps67
  go_wp2_with (go_at_call 63; (with_reducible refine (within_f _ _ _ (by omega)).mono ?_); rintro e w' ⟨rfl, rfl⟩)
  go_ret
  exact ⟨ret_i hv.out.symm, boxed3 _ _ _ _⟩
theorem rop_v_t (h : 0 ≤ x ∧ x < (M.vars.length : Int)) (hr : Hid (opR M f i x 118 = r)) : Calls Tryd.prog 67 #[M.val, f.val, .int .u8 118, .int .i64 x, i.val] w fun e w' => e = .returned (.int .i64 r) ∧ Below w.heap.size w w' := by
  have hv : Hid (r = 0) := hr.out.symm.trans (by
    have h' : inR x M.pr.vars.length := h
    simp only [opR, opndE, Int.reduceEq, false_and, false_or, or_false, true_or, or_true, if_false, if_true, if_pos h'])
  go_enter Tryd.func67, Tryd.ntmps67
  go_wp2_with (go_at_call 63; (with_reducible refine (within_t _ _ _ (by omega)).mono ?_); rintro e w' ⟨rfl, rfl⟩)
  go_ret
  exact ⟨ret_i hv.out.symm, boxed3 _ _ _ _⟩
theorem rop_v_f (h : ¬ (0 ≤ x ∧ x < (M.vars.length : Int))) (hr : Hid (opR M f i x 118 = r)) : Calls Tryd.prog 67 #[M.val, f.val, .int .u8 118, .int .i64 x, i.val] w fun e w' => e = .returned (.int .i64 r) ∧ Below w.heap.size w w' := by
  have hv : Hid (r = 36) := hr.out.symm.trans (by
    have h' : ¬ inR x M.pr.vars.length := h
    simp only [opR, opndE, Int.reduceEq, false_and, false_or, or_false, true_or, or_true, if_false, if_true, if_neg h'])
  go_enter Tryd.func67, Tryd.ntmps67
  go_wp2_with (go_at_call 63; (with_reducible refine (within_f _ _ _ (by omega)).mono ?_); rintro e w' ⟨rfl, rfl⟩)
  go_ret
  exact ⟨ret_i hv.out.symm, boxed3 _ _ _ _⟩
theorem rop_l_t (h : 0 ≤ x ∧ x < M.locks) (hr : Hid (opR M f i x 108 = r)) : Calls Tryd.prog 67 #[M.val, f.val, .int .u8 108, .int .i64 x, i.val] w fun e w' => e = .returned (.int .i64 r) ∧ Below w.heap.size w w' := by
  have hv : Hid (r = 0) := hr.out.symm.trans (by
    have h' : inR x M.pr.locks := h
    simp only [opR, opndE, Int.reduceEq, false_and, false_or, or_false, true_or, or_true, if_false, if_true, if_pos h'])
  go_enter Tryd.func67, Tryd.ntmps67
  go_wp2_with (go_at_call 63; (with_reducible refine (within_t _ _ _ (by omega)).mono ?_); rintro e w' ⟨rfl, rfl⟩)
  go_ret
  exact ⟨ret_i hv.out.symm, boxed3 _ _ _ _⟩
theorem rop_l_f (h : ¬ (0 ≤ x ∧ x < M.locks)) (hr : Hid (opR M f i x 108 = r)) : Calls Tryd.prog 67 #[M.val, f.val, .int .u8 108, .int .i64 x, i.val] w fun e w' => e = .returned (.int .i64 r) ∧ Below w.heap.size w w' := by
  have hv : Hid (r = 36) := hr.out.symm.trans (by
    have h' : ¬ inR x M.pr.locks := h
    simp only [opR, opndE, Int.reduceEq, false_and, false_or, or_false, true_or, or_true, if_false, if_true, if_neg h'])
  go_enter Tryd.func67, Tryd.ntmps67
  go_wp2_with (go_at_call 63; (with_reducible refine (within_f _ _ _ (by omega)).mono ?_); rintro e w' ⟨rfl, rfl⟩)
  go_ret
  exact ⟨ret_i hv.out.symm, boxed3 _ _ _ _⟩
theorem rop_c_t (h : 0 ≤ x ∧ x < (M.chans.length : Int)) (hr : Hid (opR M f i x 99 = r)) : Calls Tryd.prog 67 #[M.val, f.val, .int .u8 99, .int .i64 x, i.val] w fun e w' => e = .returned (.int .i64 r) ∧ Below w.heap.size w w' := by
  have hv : Hid (r = 0) := hr.out.symm.trans (by
    have h' : inR x M.pr.chans.length := h
    simp only [opR, opndE, Int.reduceEq, false_and, false_or, or_false, true_or, or_true, if_false, if_true, if_pos h'])
  go_enter Tryd.func67, Tryd.ntmps67
  go_wp2_with (go_at_call 63; (with_reducible refine (within_t _ _ _ (by omega)).mono ?_); rintro e w' ⟨rfl, rfl⟩)
  go_ret
  exact ⟨ret_i hv.out.symm, boxed3 _ _ _ _⟩
theorem rop_c_f (h : ¬ (0 ≤ x ∧ x < (M.chans.length : Int))) (hr : Hid (opR M f i x 99 = r)) : Calls Tryd.prog 67 #[M.val, f.val, .int .u8 99, .int .i64 x, i.val] w fun e w' => e = .returned (.int .i64 r) ∧ Below w.heap.size w w' := by
  have hv : Hid (r = 36) := hr.out.symm.trans (by
    have h' : ¬ inR x M.pr.chans.length := h
    simp only [opR, opndE, Int.reduceEq, false_and, false_or, or_false, true_or, or_true, if_false, if_true, if_neg h'])
  go_enter Tryd.func67, Tryd.ntmps67
  go_wp2_with (go_at_call 63; (with_reducible refine (within_f _ _ _ (by omega)).mono ?_); rintro e w' ⟨rfl, rfl⟩)
  go_ret
  exact ⟨ret_i hv.out.symm, boxed3 _ _ _ _⟩
theorem rop_s_t (h : 0 ≤ x ∧ x < (f.sels.length : Int)) (hr : Hid (opR M f i x 115 = r)) : Calls Tryd.prog 67 #[M.val, f.val, .int .u8 115, .int .i64 x, i.val] w fun e w' => e = .returned (.int .i64 r) ∧ Below w.heap.size w w' := by
  have hv : Hid (r = 0) := hr.out.symm.trans (by
    have h' : inR x (f.fn.sels.length : Int) := by rw [show (f.fn.sels.length : Int) = f.sels.length from by simp [MFn.fn]]; exact h
    simp only [opR, opndE, Int.reduceEq, false_and, false_or, or_false, true_or, or_true, if_false, if_true, if_pos h'])
  go_enter Tryd.func67, Tryd.ntmps67
  go_wp2_with (go_at_call 63; (with_reducible refine (within_t _ _ _ (by omega)).mono ?_); rintro e w' ⟨rfl, rfl⟩)
  go_ret
  exact ⟨ret_i hv.out.symm, boxed3 _ _ _ _⟩
theorem rop_s_f (h : ¬ (0 ≤ x ∧ x < (f.sels.length : Int))) (hr : Hid (opR M f i x 115 = r)) : Calls Tryd.prog 67 #[M.val, f.val, .int .u8 115, .int .i64 x, i.val] w fun e w' => e = .returned (.int .i64 r) ∧ Below w.heap.size w w' := by
  have hv : Hid (r = 36) := hr.out.symm.trans (by
    have h' : ¬ inR x (f.fn.sels.length : Int) := by rw [show (f.fn.sels.length : Int) = f.sels.length from by simp [MFn.fn]]; exact h
    simp only [opR, opndE, Int.reduceEq, false_and, false_or, or_false, true_or, or_true, if_false, if_true, if_neg h'])
  go_enter Tryd.func67, Tryd.ntmps67
  go_wp2_with (go_at_call 63; (with_reducible refine (within_f _ _ _ (by omega)).mono ?_); rintro e w' ⟨rfl, rfl⟩)
  go_ret
  exact ⟨ret_i hv.out.symm, boxed3 _ _ _ _⟩
theorem rop_f_t (h : 0 ≤ x ∧ x < (M.fns.length : Int)) (hr : Hid (opR M f i x 102 = r)) : Calls Tryd.prog 67 #[M.val, f.val, .int .u8 102, .int .i64 x, i.val] w fun e w' => e = .returned (.int .i64 r) ∧ Below w.heap.size w w' := by
  have hv : Hid (r = 0) := hr.out.symm.trans (by
    have h' : inR x (M.pr.fns.length : Int) := by rw [show (M.pr.fns.length : Int) = M.fns.length from by simp [MPr.pr]]; exact h
    simp only [opR, opndE, Int.reduceEq, false_and, false_or, or_false, true_or, or_true, if_false, if_true, if_pos h'])
  go_enter Tryd.func67, Tryd.ntmps67
  go_wp2_with (go_at_call 63; (with_reducible refine (within_t _ _ _ (by omega)).mono ?_); rintro e w' ⟨rfl, rfl⟩)
  go_ret
  exact ⟨ret_i hv.out.symm, boxed3 _ _ _ _⟩
theorem rop_f_f (h : ¬ (0 ≤ x ∧ x < (M.fns.length : Int))) (hr : Hid (opR M f i x 102 = r)) : Calls Tryd.prog 67 #[M.val, f.val, .int .u8 102, .int .i64 x, i.val] w fun e w' => e = .returned (.int .i64 r) ∧ Below w.heap.size w w' := by
  have hv : Hid (r = 36) := hr.out.symm.trans (by
    have h' : ¬ inR x (M.pr.fns.length : Int) := by rw [show (M.pr.fns.length : Int) = M.fns.length from by simp [MPr.pr]]; exact h
    simp only [opR, opndE, Int.reduceEq, false_and, false_or, or_false, true_or, or_true, if_false, if_true, if_neg h'])
  go_enter Tryd.func67, Tryd.ntmps67
  go_wp2_with (go_at_call 63; (with_reducible refine (within_f _ _ _ (by omega)).mono ?_); rintro e w' ⟨rfl, rfl⟩)
  go_ret
  exact ⟨ret_i hv.out.symm, boxed3 _ _ _ _⟩
theorem rop_t_t (h : 0 ≤ x ∧ x < (f.code.length : Int)) (hr : Hid (opR M f i x 116 = r)) : Calls Tryd.prog 67 #[M.val, f.val, .int .u8 116, .int .i64 x, i.val] w fun e w' => e = .returned (.int .i64 r) ∧ Below w.heap.size w w' := by
  have hv : Hid (r = 0) := hr.out.symm.trans (by
    have h' : inR x f.fn.code.length := h
    simp only [opR, opndE, Int.reduceEq, false_and, false_or, or_false, true_or, or_true, if_false, if_true, if_pos h'])
  go_enter Tryd.func67, Tryd.ntmps67
  go_wp2_with (go_at_call 63; (with_reducible refine (within_t _ _ _ (by omega)).mono ?_); rintro e w' ⟨rfl, rfl⟩)
  go_ret
  exact ⟨ret_i hv.out.symm, boxed3 _ _ _ _⟩
theorem rop_t_f (h : ¬ (0 ≤ x ∧ x < (f.code.length : Int))) (hr : Hid (opR M f i x 116 = r)) : Calls Tryd.prog 67 #[M.val, f.val, .int .u8 116, .int .i64 x, i.val] w fun e w' => e = .returned (.int .i64 r) ∧ Below w.heap.size w w' := by
  have hv : Hid (r = 38) := hr.out.symm.trans (by
    have h' : ¬ inR x f.fn.code.length := h
    simp only [opR, opndE, Int.reduceEq, false_and, false_or, or_false, true_or, or_true, if_false, if_true, if_neg h'])
  go_enter Tryd.func67, Tryd.ntmps67
  go_wp2_with (go_at_call 63; (with_reducible refine (within_f _ _ _ (by omega)).mono ?_); rintro e w' ⟨rfl, rfl⟩)
  go_ret
  exact ⟨ret_i hv.out.symm, boxed3 _ _ _ _⟩
theorem rop_o_none (hx : x = -1) (hr : Hid (opR M f i x 111 = r)) : Calls Tryd.prog 67 #[M.val, f.val, .int .u8 111, .int .i64 x, i.val] w fun e w' => e = .returned (.int .i64 r) ∧ Below w.heap.size w w' := by
  subst hx
  have hv : Hid (r = 0) := hr.out.symm.trans (by simp only [opR, opndE, and_self, if_true])
  go_enter Tryd.func67, Tryd.ntmps67
  go_wp2
  go_ret
  exact ⟨ret_i hv.out.symm, boxed3 _ _ _ _⟩
theorem rop_a_t (k : Nat) (y : Vr) (hk : x = (k : Int)) (hy : M.vars[k]? = some y) (hl : M.lies w) (hr : Hid (opR M f i x 97 = r)) : Calls Tryd.prog 67 #[M.val, f.val, .int .u8 97, .int .i64 x, i.val] w fun e w' => e = .returned (.int .i64 r) ∧ Below w.heap.size w w' := by
  have hlt : k < M.vars.length := (List.getElem?_eq_some_iff.mp hy).1
  have h : 0 ≤ x ∧ x < (M.vars.length : Int) := by omega
  obtain ⟨b, o, hix, hbl, c0, c1⟩ := vr_ix hl.1 k y hy
  rw [← hk] at hix
  replace c0 := cell3 c0
  have ha : M.pr.atom x = y.atomic := by rw [hk]; simp [Pr.atom, MPr.pr, hy]
  have hE : opR M f i x 97 = if y.atomic = true then 0 else 37 := by
    have h' : inR x M.pr.vars.length := h
    simp only [opR, opndE, Int.reduceEq, false_and, false_or, or_false, true_or, or_true, if_false, if_true, if_pos h', ha]
  cases hat : y.atomic with
  | true =>
    have hv : Hid (r = 0) := hr.out.symm.trans (by rw [hE, if_pos hat])
    clear ha hE hl hy hk c1 hr
    rw [hat] at c0
    go_enter Tryd.func67, Tryd.ntmps67
    go_wp2_with (go_at_call 63; (with_reducible refine (within_t _ _ _ (by omega)).mono ?_); rintro e w' ⟨rfl, rfl⟩)
    go_ret
    exact ⟨ret_i hv.out.symm, boxed3 _ _ _ _⟩
  | false =>
    have hv : Hid (r = 37) := hr.out.symm.trans (by rw [hE, if_neg (by simp [hat])])
    clear ha hE hl hy hk c1 hr
    rw [hat] at c0
    go_enter Tryd.func67, Tryd.ntmps67
    go_wp2_with (go_at_call 63; (with_reducible refine (within_t _ _ _ (by omega)).mono ?_); rintro e w' ⟨rfl, rfl⟩)
    go_ret
    exact ⟨ret_i hv.out.symm, boxed3 _ _ _ _⟩
theorem rop_a_f (h : ¬ (0 ≤ x ∧ x < (M.vars.length : Int))) (hr : Hid (opR M f i x 97 = r)) : Calls Tryd.prog 67 #[M.val, f.val, .int .u8 97, .int .i64 x, i.val] w fun e w' => e = .returned (.int .i64 r) ∧ Below w.heap.size w w' := by
  have hv : Hid (r = 36) := hr.out.symm.trans (by
    have h' : ¬ inR x M.pr.vars.length := h
    simp only [opR, opndE, Int.reduceEq, false_and, false_or, or_false, true_or, or_true, if_false, if_true, if_neg h'])
  go_enter Tryd.func67, Tryd.ntmps67
  go_wp2_with (go_at_call 63; (with_reducible refine (within_f _ _ _ (by omega)).mono ?_); rintro e w' ⟨rfl, rfl⟩)
  go_ret
  exact ⟨ret_i hv.out.symm, boxed3 _ _ _ _⟩
theorem rop_else (h1 : ¬ l = 111) (h2 : ¬ l = 114) (h3 : ¬ l = 119) (h4 : ¬ l = 112) (h5 : ¬ l = 97) (h6 : ¬ l = 118) (h7 : ¬ l = 108) (h8 : ¬ l = 99) (h9 : ¬ l = 115) (h10 : ¬ l = 102) (h11 : ¬ l = 116) (hr : Hid (opR M f i x l = r)) : Calls Tryd.prog 67 #[M.val, f.val, .int .u8 l, .int .i64 x, i.val] w fun e w' => e = .returned (.int .i64 r) ∧ Below w.heap.size w w' := by
  have hv : Hid (r = 0) := hr.out.symm.trans (by simp only [opR, opndE, h1, h2, h3, h4, h5, h6, h7, h8, h9, h10, h11, false_and, or_self, if_false])
  go_enter Tryd.func67, Tryd.ntmps67
  go_wp2
  go_ret
  exact ⟨ret_i hv.out.symm, boxed3 _ _ _ _⟩
theorem rop_p (k : Nat) (y : MFn) (hk : i.b = (k : Int)) (hy : M.fns[k]? = some y) (hl : M.lies w) (hx : I64 x) (h0 : 0 ≤ f.regs) (h8 : f.regs ≤ 8) (hr : Hid (opR M f i x 112 = r)) : Calls Tryd.prog 67 #[M.val, f.val, .int .u8 112, .int .i64 x, i.val] w fun e w' => e = .returned (.int .i64 r) ∧ Below w.heap.size w w' := by
  have hlt : k < M.fns.length := (List.getElem?_eq_some_iff.mp hy).1
  have hp : M.pr.par i.b = y.params := by rw [hk]; simp [Pr.par, MPr.pr, MFn.fn, hy]
  obtain ⟨b, o, hix, hbl, c0, c1, c2, c3⟩ := fn_ix hl.2.2.1 k y hy
  rw [← hk] at hix
  replace c0 := cell3 c0
  obtain ⟨y1, y2⟩ : I64 y.params := (hl.2.2.2.2.2.2 y (List.mem_of_getElem? hy)).2.2.2.2.1
  have hv : Hid (r = if roomR y.params x f.regs then 0 else 35) := hr.out.symm.trans (by
    simp only [opR, opndE, Int.reduceEq, false_and, false_or, or_false, true_or, or_true, if_false, if_true, hp])
  clear hl hy hp hr c1 c2 c3
  have hbI : 0 ≤ i.b ∧ i.b < (M.fns.length : Int) := by omega
  clear hk hlt
  obtain ⟨x1, x2⟩ := hx
  generalize y.params = k at *
  by_cases hz : k = 0
  · subst hz
    by_cases hx0 : x = 0
    · have hv2 : Hid (r = 0) := hv.out.trans (if_pos (by rintro (q | q) <;> omega))
      go_enter Tryd.func67, Tryd.ntmps67
      go_wp2
      go_ret
      exact ⟨ret_i hv2.out.symm, boxed3 _ _ _ _⟩
    · have hv2 : Hid (r = 35) := hv.out.trans (if_neg (fun q => q (.inl ⟨rfl, hx0⟩)))
      go_enter Tryd.func67, Tryd.ntmps67
      go_wp2
      go_ret
      exact ⟨ret_i hv2.out.symm, boxed3 _ _ _ _⟩
  · by_cases hp : 0 < k
    · by_cases hx0 : x < 0
      · have hv2 : Hid (r = 35) := hv.out.trans (if_neg (fun q => q (.inr ⟨hp, .inl hx0⟩)))
        go_enter Tryd.func67, Tryd.ntmps67
        go_wp2
        go_ret
        exact ⟨ret_i hv2.out.symm, boxed3 _ _ _ _⟩
      · by_cases hx1 : f.regs - k < x
        · have hv2 : Hid (r = 35) := hv.out.trans (if_neg (fun q => q (.inr ⟨hp, .inr hx1⟩)))
          go_enter Tryd.func67, Tryd.ntmps67
          go_wp2
          go_ret
          exact ⟨ret_i hv2.out.symm, boxed3 _ _ _ _⟩
        · have hv2 : Hid (r = 0) := hv.out.trans (if_pos (by rintro (q | q) <;> omega))
          go_enter Tryd.func67, Tryd.ntmps67
          go_wp2
          go_ret
          exact ⟨ret_i hv2.out.symm, boxed3 _ _ _ _⟩
    · have hv2 : Hid (r = 0) := hv.out.trans (if_pos (by rintro (q | q) <;> omega))
      go_enter Tryd.func67, Tryd.ntmps67
      go_wp2
      go_ret
      exact ⟨ret_i hv2.out.symm, boxed3 _ _ _ _⟩
/-- Every operand, whatever its letter. -/
theorem roperand_any (hl : M.lies w) (hx64 : I64 x) (h0 : 0 ≤ f.regs) (h8 : f.regs ≤ 8) (hp : l = 112 → 0 ≤ i.b ∧ i.b < (M.fns.length : Int)) (hr : Hid (opR M f i x l = r)) :
    Calls Tryd.prog 67 #[M.val, f.val, .int .u8 l, .int .i64 x, i.val] w fun e w' => e = .returned (.int .i64 r) ∧ Below w.heap.size w w' := by
  by_cases l1 : l = 111
  · subst l1
    by_cases hx : x = -1
    · exact rop_o_none M f i x w r hx hr
    by_cases h : 0 ≤ x ∧ x < f.regs
    · exact rop_o_t M f i x w r hx h hr
    · exact rop_o_f M f i x w r hx h hr
  by_cases l2 : l = 114
  · subst l2
    by_cases h : 0 ≤ x ∧ x < f.regs
    · exact rop_r_t M f i x w r h hr
    · exact rop_r_f M f i x w r h hr
  by_cases l3 : l = 119
  · subst l3
    by_cases h : 0 ≤ x ∧ x < f.regs
    · exact rop_w_t M f i x w r h hr
    · exact rop_w_f M f i x w r h hr
  by_cases l4 : l = 112
  · subst l4
    have hb := hp rfl
    obtain ⟨y, hy, _⟩ := get_lt M.fns i.b.toNat (by omega)
    exact rop_p M f i x w r i.b.toNat y (by omega) hy hl hx64 h0 h8 hr
  by_cases l5 : l = 97
  · subst l5
    by_cases h : 0 ≤ x ∧ x < (M.vars.length : Int)
    · obtain ⟨y, hy, _⟩ := get_lt M.vars x.toNat (by omega)
      exact rop_a_t M f i x w r x.toNat y (by omega) hy hl hr
    · exact rop_a_f M f i x w r h hr
  by_cases l6 : l = 118
  · subst l6
    by_cases h : 0 ≤ x ∧ x < (M.vars.length : Int)
    · exact rop_v_t M f i x w r h hr
    · exact rop_v_f M f i x w r h hr
  by_cases l7 : l = 108
  · subst l7
    by_cases h : 0 ≤ x ∧ x < M.locks
    · exact rop_l_t M f i x w r h hr
    · exact rop_l_f M f i x w r h hr
  by_cases l8 : l = 99
  · subst l8
    by_cases h : 0 ≤ x ∧ x < (M.chans.length : Int)
    · exact rop_c_t M f i x w r h hr
    · exact rop_c_f M f i x w r h hr
  by_cases l9 : l = 115
  · subst l9
    by_cases h : 0 ≤ x ∧ x < (f.sels.length : Int)
    · exact rop_s_t M f i x w r h hr
    · exact rop_s_f M f i x w r h hr
  by_cases l10 : l = 102
  · subst l10
    by_cases h : 0 ≤ x ∧ x < (M.fns.length : Int)
    · exact rop_f_t M f i x w r h hr
    · exact rop_f_f M f i x w r h hr
  by_cases l11 : l = 116
  · subst l11
    by_cases h : 0 ≤ x ∧ x < (f.code.length : Int)
    · exact rop_t_t M f i x w r h hr
    · exact rop_t_f M f i x w r h hr
  exact rop_else M f i x w r l l1 l2 l3 l4 l5 l6 l7 l8 l9 l10 l11 hr
end
end Go.Proofs.YtaghfahhfockkaaDoor.pg
