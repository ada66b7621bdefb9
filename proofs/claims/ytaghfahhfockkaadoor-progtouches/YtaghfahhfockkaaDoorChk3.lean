/- The contracts of package prog's looks at operands. -/
import Derived.Test.YtaghfahhfockkaaDoorChk2
namespace Go.Proofs.YtaghfahhfockkaaDoor.pg
open Go.ChangeShapes Go.WideShapes Go.ChangeAt Go.RowKit
set_option linter.unusedVariables false
set_option linter.unusedSimpArgs false
set_option maxRecDepth 100000
theorem unless_t (e0 : Int) (w : World) : Calls Tryd.prog 98 #[.bool true, .int .i64 e0] w fun e w' => e = .returned (.int .i64 0) ∧ w' = w := by
  go_enter Tryd.func98, Tryd.ntmps98
  go_wp2
  go_ret
  exact ⟨rfl, rfl⟩
theorem unless_f (e0 : Int) (w : World) : Calls Tryd.prog 98 #[.bool false, .int .i64 e0] w fun e w' => e = .returned (.int .i64 e0) ∧ w' = w := by
  go_enter Tryd.func98, Tryd.ntmps98
  go_wp2
  go_ret
  exact ⟨rfl, rfl⟩
theorem operands_any (x : Ins) (w : World) : Calls Tryd.prog 37 #[x.val] w fun e w' => e = .returned (.agg #[.int .i64 x.a, .int .i64 x.b, .int .i64 x.c, .int .i64 x.n]) ∧ Below w.heap.size w w' := by
  go_enter Tryd.func37, Tryd.ntmps37
  go_wp2
  exact bodyPost_ret (v := .agg #[.int .i64 x.a, .int .i64 x.b, .int .i64 x.c, .int .i64 x.n]) (by simp [results, Tryd.results37, go_sem]) rfl ⟨rfl, boxed2 _ _ _⟩
section
variable (M : MPr) (f : MFn) (i : Ins) (x : Int) (w : World) (r : Int)
abbrev opE (l : Int) : Int := opndE (roomP (M.pr.par i.b) i.c f.regs) M.pr f.fn l x
theorem op_r_t (h : 0 ≤ x ∧ x < f.regs) (hr : Hid (opE M f i x 114 = r)) : Calls Tryd.prog 85 #[M.val, f.val, i.val, .int .u8 114, .int .i64 x] w fun e w' => e = .returned (.int .i64 r) ∧ Below w.heap.size w w' := by
  have hv : Hid (r = 0) := hr.out.symm.trans (by
    have h' : inR x f.fn.regs := h
    simp only [opE, opndE, Int.reduceEq, false_and, false_or, or_false, true_or, or_true, if_false, if_true, if_pos h'])
  go_enter Tryd.func85, Tryd.ntmps85
  go_wp2_with (first | (go_at_call 36; (with_reducible refine (below_t _ _ _ (by omega)).mono ?_); rintro e w' ⟨rfl, rfl⟩) | (go_at_call 98; (with_reducible refine (unless_t _ _).mono ?_); rintro e w' ⟨rfl, rfl⟩))
  go_ret
  exact ⟨ret_i hv.out.symm, boxed3 _ _ _ _⟩
theorem op_r_f (h : ¬ (0 ≤ x ∧ x < f.regs)) (hr : Hid (opE M f i x 114 = r)) : Calls Tryd.prog 85 #[M.val, f.val, i.val, .int .u8 114, .int .i64 x] w fun e w' => e = .returned (.int .i64 r) ∧ Below w.heap.size w w' := by
  have hv : Hid (r = 35) := hr.out.symm.trans (by
    have h' : ¬ inR x f.fn.regs := h
    simp only [opE, opndE, Int.reduceEq, false_and, false_or, or_false, true_or, or_true, if_false, if_true, if_neg h'])
  go_enter Tryd.func85, Tryd.ntmps85
  go_wp2_with (first | (go_at_call 36; (with_reducible refine (below_f _ _ _ (by omega)).mono ?_); rintro e w' ⟨rfl, rfl⟩) | (go_at_call 98; (with_reducible refine (unless_f _ _).mono ?_); rintro e w' ⟨rfl, rfl⟩))
  go_ret
  exact ⟨ret_i hv.out.symm, boxed3 _ _ _ _⟩
theorem op_w_t (h : 0 ≤ x ∧ x < f.regs) (hr : Hid (opE M f i x 119 = r)) : Calls Tryd.prog 85 #[M.val, f.val, i.val, .int .u8 119, .int .i64 x] w fun e w' => e = .returned (.int .i64 r) ∧ Below w.heap.size w w' := by
  have hv : Hid (r = 0) := hr.out.symm.trans (by
    have h' : inR x f.fn.regs := h
    simp only [opE, opndE, Int.reduceEq, false_and, false_or, or_false, true_or, or_true, if_false, if_true, if_pos h'])
  go_enter Tryd.func85, Tryd.ntmps85
  go_wp2_with (first | (go_at_call 36; (with_reducible refine (below_t _ _ _ (by omega)).mono ?_); rintro e w' ⟨rfl, rfl⟩) | (go_at_call 98; (with_reducible refine (unless_t _ _).mono ?_); rintro e w' ⟨rfl, rfl⟩))
  go_ret
  exact ⟨ret_i hv.out.symm, boxed3 _ _ _ _⟩
theorem op_w_f (h : ¬ (0 ≤ x ∧ x < f.regs)) (hr : Hid (opE M f i x 119 = r)) : Calls Tryd.prog 85 #[M.val, f.val, i.val, .int .u8 119, .int .i64 x] w fun e w' => e = .returned (.int .i64 r) ∧ Below w.heap.size w w' := by
  have hv : Hid (r = 35) := hr.out.symm.trans (by
    have h' : ¬ inR x f.fn.regs := h
    simp only [opE, opndE, Int.reduceEq, false_and, false_or, or_false, true_or, or_true, if_false, if_true, if_neg h'])
  go_enter Tryd.func85, Tryd.ntmps85
  go_wp2_with (first | (go_at_call 36; (with_reducible refine (below_f _ _ _ (by omega)).mono ?_); rintro e w' ⟨rfl, rfl⟩) | (go_at_call 98; (with_reducible refine (unless_f _ _).mono ?_); rintro e w' ⟨rfl, rfl⟩))
  go_ret
  exact ⟨ret_i hv.out.symm, boxed3 _ _ _ _⟩
theorem op_o_t (hx : ¬ x = -1) (h : 0 ≤ x ∧ x < f.regs) (hr : Hid (opE M f i x 111 = r)) : Calls Tryd.prog 85 #[M.val, f.val, i.val, .int .u8 111, .int .i64 x] w fun e w' => e = .returned (.int .i64 r) ∧ Below w.heap.size w w' := by
  have hv : Hid (r = 0) := hr.out.symm.trans (by
    have h' : inR x f.fn.regs := h
    simp only [opE, opndE, hx, and_false, Int.reduceEq, false_and, false_or, or_false, true_or, or_true, if_false, if_true, if_pos h'])
  go_enter Tryd.func85, Tryd.ntmps85
  go_wp2_with (first | (go_at_call 36; (with_reducible refine (below_t _ _ _ (by omega)).mono ?_); rintro e w' ⟨rfl, rfl⟩) | (go_at_call 98; (with_reducible refine (unless_t _ _).mono ?_); rintro e w' ⟨rfl, rfl⟩))
  go_ret
  exact ⟨ret_i hv.out.symm, boxed3 _ _ _ _⟩
theorem op_o_f (hx : ¬ x = -1) (h : ¬ (0 ≤ x ∧ x < f.regs)) (hr : Hid (opE M f i x 111 = r)) : Calls Tryd.prog 85 #[M.val, f.val, i.val, .int .u8 111, .int .i64 x] w fun e w' => e = .returned (.int .i64 r) ∧ Below w.heap.size w w' := by
  have hv : Hid (r = 35) := hr.out.symm.trans (by
    have h' : ¬ inR x f.fn.regs := h
    simp only [opE, opndE, hx, and_false, Int.reduceEq, false_and, false_or, or_false, true_or, or_true, if_false, if_true, if_neg h'])
  go_enter Tryd.func85, Tryd.ntmps85
  go_wp2_with (first | (go_at_call 36; (with_reducible refine (below_f _ _ _ (by omega)).mono ?_); rintro e w' ⟨rfl, rfl⟩) | (go_at_call 98; (with_reducible refine (unless_f _ _).mono ?_); rintro e w' ⟨rfl, rfl⟩))
  go_ret
  exact ⟨ret_i hv.out.symm, boxed3 _ _ _ _⟩
theorem op_v_t (h : 0 ≤ x ∧ x < (M.vars.length : Int)) (hr : Hid (opE M f i x 118 = r)) : Calls Tryd.prog 85 #[M.val, f.val, i.val, .int .u8 118, .int .i64 x] w fun e w' => e = .returned (.int .i64 r) ∧ Below w.heap.size w w' := by
  have hv : Hid (r = 0) := hr.out.symm.trans (by
    have h' : inR x M.pr.vars.length := h
    simp only [opE, opndE, Int.reduceEq, false_and, false_or, or_false, true_or, or_true, if_false, if_true, if_pos h'])
  go_enter Tryd.func85, Tryd.ntmps85
  go_wp2_with (first | (go_at_call 36; (with_reducible refine (below_t _ _ _ (by omega)).mono ?_); rintro e w' ⟨rfl, rfl⟩) | (go_at_call 98; (with_reducible refine (unless_t _ _).mono ?_); rintro e w' ⟨rfl, rfl⟩))
  go_ret
  exact ⟨ret_i hv.out.symm, boxed3 _ _ _ _⟩
theorem op_v_f (h : ¬ (0 ≤ x ∧ x < (M.vars.length : Int))) (hr : Hid (opE M f i x 118 = r)) : Calls Tryd.prog 85 #[M.val, f.val, i.val, .int .u8 118, .int .i64 x] w fun e w' => e = .returned (.int .i64 r) ∧ Below w.heap.size w w' := by
  have hv : Hid (r = 36) := hr.out.symm.trans (by
    have h' : ¬ inR x M.pr.vars.length := h
    simp only [opE, opndE, Int.reduceEq, false_and, false_or, or_false, true_or, or_true, if_false, if_true, if_neg h'])
  go_enter Tryd.func85, Tryd.ntmps85
  go_wp2_with (first | (go_at_call 36; (with_reducible refine (below_f _ _ _ (by omega)).mono ?_); rintro e w' ⟨rfl, rfl⟩) | (go_at_call 98; (with_reducible refine (unless_f _ _).mono ?_); rintro e w' ⟨rfl, rfl⟩))
  go_ret
  exact ⟨ret_i hv.out.symm, boxed3 _ _ _ _⟩
theorem op_l_t (h : 0 ≤ x ∧ x < M.locks) (hr : Hid (opE M f i x 108 = r)) : Calls Tryd.prog 85 #[M.val, f.val, i.val, .int .u8 108, .int .i64 x] w fun e w' => e = .returned (.int .i64 r) ∧ Below w.heap.size w w' := by
  have hv : Hid (r = 0) := hr.out.symm.trans (by
    have h' : inR x M.pr.locks := h
    simp only [opE, opndE, Int.reduceEq, false_and, false_or, or_false, true_or, or_true, if_false, if_true, if_pos h'])
  go_enter Tryd.func85, Tryd.ntmps85
  go_wp2_with (first | (go_at_call 36; (with_reducible refine (below_t _ _ _ (by omega)).mono ?_); rintro e w' ⟨rfl, rfl⟩) | (go_at_call 98; (with_reducible refine (unless_t _ _).mono ?_); rintro e w' ⟨rfl, rfl⟩))
  go_ret
  exact ⟨ret_i hv.out.symm, boxed3 _ _ _ _⟩
theorem op_l_f (h : ¬ (0 ≤ x ∧ x < M.locks)) (hr : Hid (opE M f i x 108 = r)) : Calls Tryd.prog 85 #[M.val, f.val, i.val, .int .u8 108, .int .i64 x] w fun e w' => e = .returned (.int .i64 r) ∧ Below w.heap.size w w' := by
  have hv : Hid (r = 36) := hr.out.symm.trans (by
    have h' : ¬ inR x M.pr.locks := h
    simp only [opE, opndE, Int.reduceEq, false_and, false_or, or_false, true_or, or_true, if_false, if_true, if_neg h'])
  go_enter Tryd.func85, Tryd.ntmps85
  go_wp2_with (first | (go_at_call 36; (with_reducible refine (below_f _ _ _ (by omega)).mono ?_); rintro e w' ⟨rfl, rfl⟩) | (go_at_call 98; (with_reducible refine (unless_f _ _).mono ?_); rintro e w' ⟨rfl, rfl⟩))
  go_ret
  exact ⟨ret_i hv.out.symm, boxed3 _ _ _ _⟩
theorem op_c_t (h : 0 ≤ x ∧ x < (M.chans.length : Int)) (hr : Hid (opE M f i x 99 = r)) : Calls Tryd.prog 85 #[M.val, f.val, i.val, .int .u8 99, .int .i64 x] w fun e w' => e = .returned (.int .i64 r) ∧ Below w.heap.size w w' := by
  have hv : Hid (r = 0) := hr.out.symm.trans (by
    have h' : inR x M.pr.chans.length := h
    simp only [opE, opndE, Int.reduceEq, false_and, false_or, or_false, true_or, or_true, if_false, if_true, if_pos h'])
  go_enter Tryd.func85, Tryd.ntmps85
  go_wp2_with (first | (go_at_call 36; (with_reducible refine (below_t _ _ _ (by omega)).mono ?_); rintro e w' ⟨rfl, rfl⟩) | (go_at_call 98; (with_reducible refine (unless_t _ _).mono ?_); rintro e w' ⟨rfl, rfl⟩))
  go_ret
  exact ⟨ret_i hv.out.symm, boxed3 _ _ _ _⟩
theorem op_c_f (h : ¬ (0 ≤ x ∧ x < (M.chans.length : Int))) (hr : Hid (opE M f i x 99 = r)) : Calls Tryd.prog 85 #[M.val, f.val, i.val, .int .u8 99, .int .i64 x] w fun e w' => e = .returned (.int .i64 r) ∧ Below w.heap.size w w' := by
  have hv : Hid (r = 36) := hr.out.symm.trans (by
    have h' : ¬ inR x M.pr.chans.length := h
    simp only [opE, opndE, Int.reduceEq, false_and, false_or, or_false, true_or, or_true, if_false, if_true, if_neg h'])
  go_enter Tryd.func85, Tryd.ntmps85
  go_wp2_with (first | (go_at_call 36; (with_reducible refine (below_f _ _ _ (by omega)).mono ?_); rintro e w' ⟨rfl, rfl⟩) | (go_at_call 98; (with_reducible refine (unless_f _ _).mono ?_); rintro e w' ⟨rfl, rfl⟩))
  go_ret
  exact ⟨ret_i hv.out.symm, boxed3 _ _ _ _⟩
theorem op_s_t (h : 0 ≤ x ∧ x < (f.sels.length : Int)) (hr : Hid (opE M f i x 115 = r)) : Calls Tryd.prog 85 #[M.val, f.val, i.val, .int .u8 115, .int .i64 x] w fun e w' => e = .returned (.int .i64 r) ∧ Below w.heap.size w w' := by
  have hv : Hid (r = 0) := hr.out.symm.trans (by
    have h' : inR x (f.fn.sels.length : Int) := by rw [show (f.fn.sels.length : Int) = f.sels.length from by simp [MFn.fn]]; exact h
    simp only [opE, opndE, Int.reduceEq, false_and, false_or, or_false, true_or, or_true, if_false, if_true, if_pos h'])
  go_enter Tryd.func85, Tryd.ntmps85
  go_wp2_with (first | (go_at_call 36; (with_reducible refine (below_t _ _ _ (by omega)).mono ?_); rintro e w' ⟨rfl, rfl⟩) | (go_at_call 98; (with_reducible refine (unless_t _ _).mono ?_); rintro e w' ⟨rfl, rfl⟩))
  go_ret
  exact ⟨ret_i hv.out.symm, boxed3 _ _ _ _⟩
theorem op_s_f (h : ¬ (0 ≤ x ∧ x < (f.sels.length : Int))) (hr : Hid (opE M f i x 115 = r)) : Calls Tryd.prog 85 #[M.val, f.val, i.val, .int .u8 115, .int .i64 x] w fun e w' => e = .returned (.int .i64 r) ∧ Below w.heap.size w w' := by
  have hv : Hid (r = 36) := hr.out.symm.trans (by
    have h' : ¬ inR x (f.fn.sels.length : Int) := by rw [show (f.fn.sels.length : Int) = f.sels.length from by simp [MFn.fn]]; exact h
    simp only [opE, opndE, Int.reduceEq, false_and, false_or, or_false, true_or, or_true, if_false, if_true, if_neg h'])
  go_enter Tryd.func85, Tryd.ntmps85
  go_wp2_with (first | (go_at_call 36; (with_reducible refine (below_f _ _ _ (by omega)).mono ?_); rintro e w' ⟨rfl, rfl⟩) | (go_at_call 98; (with_reducible refine (unless_f _ _).mono ?_); rintro e w' ⟨rfl, rfl⟩))
  go_ret
  exact ⟨ret_i hv.out.symm, boxed3 _ _ _ _⟩
theorem op_f_t (h : 0 ≤ x ∧ x < (M.fns.length : Int)) (hr : Hid (opE M f i x 102 = r)) : Calls Tryd.prog 85 #[M.val, f.val, i.val, .int .u8 102, .int .i64 x] w fun e w' => e = .returned (.int .i64 r) ∧ Below w.heap.size w w' := by
  have hv : Hid (r = 0) := hr.out.symm.trans (by
    have h' : inR x (M.pr.fns.length : Int) := by rw [show (M.pr.fns.length : Int) = M.fns.length from by simp [MPr.pr]]; exact h
    simp only [opE, opndE, Int.reduceEq, false_and, false_or, or_false, true_or, or_true, if_false, if_true, if_pos h'])
  go_enter Tryd.func85, Tryd.ntmps85
  go_wp2_with (first | (go_at_call 36; (with_reducible refine (below_t _ _ _ (by omega)).mono ?_); rintro e w' ⟨rfl, rfl⟩) | (go_at_call 98; (with_reducible refine (unless_t _ _).mono ?_); rintro e w' ⟨rfl, rfl⟩))
  go_ret
  exact ⟨ret_i hv.out.symm, boxed3 _ _ _ _⟩
theorem op_f_f (h : ¬ (0 ≤ x ∧ x < (M.fns.length : Int))) (hr : Hid (opE M f i x 102 = r)) : Calls Tryd.prog 85 #[M.val, f.val, i.val, .int .u8 102, .int .i64 x] w fun e w' => e = .returned (.int .i64 r) ∧ Below w.heap.size w w' := by
  have hv : Hid (r = 36) := hr.out.symm.trans (by
    have h' : ¬ inR x (M.pr.fns.length : Int) := by rw [show (M.pr.fns.length : Int) = M.fns.length from by simp [MPr.pr]]; exact h
    simp only [opE, opndE, Int.reduceEq, false_and, false_or, or_false, true_or, or_true, if_false, if_true, if_neg h'])
  go_enter Tryd.func85, Tryd.ntmps85
  go_wp2_with (first | (go_at_call 36; (with_reducible refine (below_f _ _ _ (by omega)).mono ?_); rintro e w' ⟨rfl, rfl⟩) | (go_at_call 98; (with_reducible refine (unless_f _ _).mono ?_); rintro e w' ⟨rfl, rfl⟩))
  go_ret
  exact ⟨ret_i hv.out.symm, boxed3 _ _ _ _⟩
theorem op_t_t (h : 0 ≤ x ∧ x < (f.code.length : Int)) (hr : Hid (opE M f i x 116 = r)) : Calls Tryd.prog 85 #[M.val, f.val, i.val, .int .u8 116, .int .i64 x] w fun e w' => e = .returned (.int .i64 r) ∧ Below w.heap.size w w' := by
  have hv : Hid (r = 0) := hr.out.symm.trans (by
    have h' : inR x f.fn.code.length := h
    simp only [opE, opndE, Int.reduceEq, false_and, false_or, or_false, true_or, or_true, if_false, if_true, if_pos h'])
  go_enter Tryd.func85, Tryd.ntmps85
  go_wp2_with (first | (go_at_call 36; (with_reducible refine (below_t _ _ _ (by omega)).mono ?_); rintro e w' ⟨rfl, rfl⟩) | (go_at_call 98; (with_reducible refine (unless_t _ _).mono ?_); rintro e w' ⟨rfl, rfl⟩))
  go_ret
  exact ⟨ret_i hv.out.symm, boxed3 _ _ _ _⟩
theorem op_t_f (h : ¬ (0 ≤ x ∧ x < (f.code.length : Int))) (hr : Hid (opE M f i x 116 = r)) : Calls Tryd.prog 85 #[M.val, f.val, i.val, .int .u8 116, .int .i64 x] w fun e w' => e = .returned (.int .i64 r) ∧ Below w.heap.size w w' := by
  have hv : Hid (r = 38) := hr.out.symm.trans (by
    have h' : ¬ inR x f.fn.code.length := h
    simp only [opE, opndE, Int.reduceEq, false_and, false_or, or_false, true_or, or_true, if_false, if_true, if_neg h'])
  go_enter Tryd.func85, Tryd.ntmps85
  go_wp2_with (first | (go_at_call 36; (with_reducible refine (below_f _ _ _ (by omega)).mono ?_); rintro e w' ⟨rfl, rfl⟩) | (go_at_call 98; (with_reducible refine (unless_f _ _).mono ?_); rintro e w' ⟨rfl, rfl⟩))
  go_ret
  exact ⟨ret_i hv.out.symm, boxed3 _ _ _ _⟩
theorem op_o_none (hx : x = -1) (hr : Hid (opE M f i x 111 = r)) : Calls Tryd.prog 85 #[M.val, f.val, i.val, .int .u8 111, .int .i64 x] w fun e w' => e = .returned (.int .i64 r) ∧ Below w.heap.size w w' := by
  subst hx
  have hv : Hid (r = 0) := hr.out.symm.trans (by simp only [opE, opndE, and_self, if_true])
  go_enter Tryd.func85, Tryd.ntmps85
  go_wp2
  go_ret
  exact ⟨ret_i hv.out.symm, boxed3 _ _ _ _⟩
theorem op_a_t (k : Nat) (y : Vr) (hk : x = (k : Int)) (hy : M.vars[k]? = some y) (hl : M.lies w) (hr : Hid (opE M f i x 97 = r)) : Calls Tryd.prog 85 #[M.val, f.val, i.val, .int .u8 97, .int .i64 x] w fun e w' => e = .returned (.int .i64 r) ∧ Below w.heap.size w w' := by
  have hlt : k < M.vars.length := (List.getElem?_eq_some_iff.mp hy).1
  have h : 0 ≤ x ∧ x < (M.vars.length : Int) := by omega
  obtain ⟨b, o, hix, hbl, c0, c1⟩ := vr_ix hl.1 k y hy
  rw [← hk] at hix
  replace c0 := cell3 c0
  have ha : M.pr.atom x = y.atomic := by rw [hk]; simp [Pr.atom, MPr.pr, hy]
  have hE : opE M f i x 97 = if y.atomic = true then 0 else 37 := by
    have h' : inR x M.pr.vars.length := h
    simp only [opE, opndE, Int.reduceEq, false_and, false_or, or_false, true_or, or_true, if_false, if_true, if_pos h', ha]
  cases hat : y.atomic with
  | true =>
    have hv : Hid (r = 0) := hr.out.symm.trans (by rw [hE, if_pos hat])
    clear ha hE hl hy hk c1 hr
    rw [hat] at c0
    go_enter Tryd.func85, Tryd.ntmps85
    go_wp2_with (first | (go_at_call 36; (with_reducible refine (below_t _ _ _ (by omega)).mono ?_); rintro e w' ⟨rfl, rfl⟩) | (go_at_call 98; (with_reducible refine (unless_t _ _).mono ?_); rintro e w' ⟨rfl, rfl⟩))
    go_ret
    exact ⟨ret_i hv.out.symm, boxed3 _ _ _ _⟩
  | false =>
    have hv : Hid (r = 37) := hr.out.symm.trans (by rw [hE, if_neg (by simp [hat])])
    clear ha hE hl hy hk c1 hr
    rw [hat] at c0
    go_enter Tryd.func85, Tryd.ntmps85
    go_wp2_with (first | (go_at_call 36; (with_reducible refine (below_t _ _ _ (by omega)).mono ?_); rintro e w' ⟨rfl, rfl⟩) | (go_at_call 98; (with_reducible refine (unless_f _ _).mono ?_); rintro e w' ⟨rfl, rfl⟩))
    go_ret
    exact ⟨ret_i hv.out.symm, boxed3 _ _ _ _⟩
theorem op_a_f (h : ¬ (0 ≤ x ∧ x < (M.vars.length : Int))) (hr : Hid (opE M f i x 97 = r)) : Calls Tryd.prog 85 #[M.val, f.val, i.val, .int .u8 97, .int .i64 x] w fun e w' => e = .returned (.int .i64 r) ∧ Below w.heap.size w w' := by
  have hv : Hid (r = 36) := hr.out.symm.trans (by
    have h' : ¬ inR x M.pr.vars.length := h
    simp only [opE, opndE, Int.reduceEq, false_and, false_or, or_false, true_or, or_true, if_false, if_true, if_neg h'])
  go_enter Tryd.func85, Tryd.ntmps85
  go_wp2_with (first | (go_at_call 36; (with_reducible refine (below_f _ _ _ (by omega)).mono ?_); rintro e w' ⟨rfl, rfl⟩) | (go_at_call 98; (with_reducible refine (unless_f _ _).mono ?_); rintro e w' ⟨rfl, rfl⟩))
  go_ret
  exact ⟨ret_i hv.out.symm, boxed3 _ _ _ _⟩
end
end Go.Proofs.YtaghfahhfockkaaDoor.pg
