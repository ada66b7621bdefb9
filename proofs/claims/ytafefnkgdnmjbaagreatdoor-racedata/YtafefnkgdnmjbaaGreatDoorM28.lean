/- The contracts of package prog's looks at operands. -/
import Derived.Test.YtafefnkgdnmjbaaGreatDoorM27
import Derived.Deep.RegionHeld3
import Derived.Deep.DrawnRows
import Derived.Test.YtafefnkgdnmjbaaGreatDoorM26
namespace Go.Proofs.YtafefnkgdnmjbaaGreatDoor.pg.pp
open Go.ChangeShapes Go.WideShapes Go.ChangeAt Go.RowKit
set_option linter.unusedVariables false
set_option linter.unusedSimpArgs false
set_option maxRecDepth 100000
theorem unless_t (e0 : Int) (w : World) : Calls Tryz.prog 180 #[.bool true, .int .i64 e0] w fun e w' => e = .returned (.int .i64 0) ∧ w' = w := by
  go_enter Tryz.func180, Tryz.ntmps180
  go_wp2
  go_ret
  exact ⟨rfl, rfl⟩
theorem unless_f (e0 : Int) (w : World) : Calls Tryz.prog 180 #[.bool false, .int .i64 e0] w fun e w' => e = .returned (.int .i64 e0) ∧ w' = w := by
  go_enter Tryz.func180, Tryz.ntmps180
  go_wp2
  go_ret
  exact ⟨rfl, rfl⟩
theorem operands_any (x : Ins) (w : World) : Calls Tryz.prog 173 #[x.val] w fun e w' => e = .returned (.agg #[.int .i64 x.a, .int .i64 x.b, .int .i64 x.c, .int .i64 x.n]) ∧ Below w.heap.size w w' := by
  go_enter Tryz.func173, Tryz.ntmps173
  go_wp2
  exact bodyPost_ret (v := .agg #[.int .i64 x.a, .int .i64 x.b, .int .i64 x.c, .int .i64 x.n]) (by simp [results, Tryz.results173, go_sem]) rfl ⟨rfl, boxed2 _ _ _⟩
section
variable (M : MPr) (f : MFn) (i : Ins) (x : Int) (w : World) (r : Int)
abbrev opE (l : Int) : Int := opndE (roomP (M.pr.par i.b) i.c f.regs) M.pr f.fn l x
theorem op_r_t (h : 0 ≤ x ∧ x < f.regs) (hr : Hid (opE M f i x 114 = r)) : Calls Tryz.prog 174 #[M.val, f.val, i.val, .int .u8 114, .int .i64 x] w fun e w' => e = .returned (.int .i64 r) ∧ Below w.heap.size w w' := by
  have hv : Hid (r = 0) := hr.out.symm.trans (by
    have h' : inRp x f.fn.regs := h
    simp only [opE, opndE, Int.reduceEq, false_and, false_or, or_false, true_or, or_true, if_false, if_true, if_pos h'])
  go_enter Tryz.func174, Tryz.ntmps174
  go_wp2_with (first | (go_at_call 171; (with_reducible refine (below_t _ _ _ (by omega)).mono ?_); rintro e w' ⟨rfl, rfl⟩) | (go_at_call 180; (with_reducible refine (unless_t _ _).mono ?_); rintro e w' ⟨rfl, rfl⟩))
  go_ret
  exact ⟨ret_i hv.out.symm, boxed3 _ _ _ _⟩
theorem op_r_f (h : ¬ (0 ≤ x ∧ x < f.regs)) (hr : Hid (opE M f i x 114 = r)) : Calls Tryz.prog 174 #[M.val, f.val, i.val, .int .u8 114, .int .i64 x] w fun e w' => e = .returned (.int .i64 r) ∧ Below w.heap.size w w' := by
  have hv : Hid (r = 35) := hr.out.symm.trans (by
    have h' : ¬ inRp x f.fn.regs := h
    simp only [opE, opndE, Int.reduceEq, false_and, false_or, or_false, true_or, or_true, if_false, if_true, if_neg h'])
  go_enter Tryz.func174, Tryz.ntmps174
  go_wp2_with (first | (go_at_call 171; (with_reducible refine (below_f _ _ _ (by omega)).mono ?_); rintro e w' ⟨rfl, rfl⟩) | (go_at_call 180; (with_reducible refine (unless_f _ _).mono ?_); rintro e w' ⟨rfl, rfl⟩))
  go_ret
  exact ⟨ret_i hv.out.symm, boxed3 _ _ _ _⟩
theorem op_w_t (h : 0 ≤ x ∧ x < f.regs) (hr : Hid (opE M f i x 119 = r)) : Calls Tryz.prog 174 #[M.val, f.val, i.val, .int .u8 119, .int .i64 x] w fun e w' => e = .returned (.int .i64 r) ∧ Below w.heap.size w w' := by
  have hv : Hid (r = 0) := hr.out.symm.trans (by
    have h' : inRp x f.fn.regs := h
    simp only [opE, opndE, Int.reduceEq, false_and, false_or, or_false, true_or, or_true, if_false, if_true, if_pos h'])
  go_enter Tryz.func174, Tryz.ntmps174
  go_wp2_with (first | (go_at_call 171; (with_reducible refine (below_t _ _ _ (by omega)).mono ?_); rintro e w' ⟨rfl, rfl⟩) | (go_at_call 180; (with_reducible refine (unless_t _ _).mono ?_); rintro e w' ⟨rfl, rfl⟩))
  go_ret
  exact ⟨ret_i hv.out.symm, boxed3 _ _ _ _⟩
theorem op_w_f (h : ¬ (0 ≤ x ∧ x < f.regs)) (hr : Hid (opE M f i x 119 = r)) : Calls Tryz.prog 174 #[M.val, f.val, i.val, .int .u8 119, .int .i64 x] w fun e w' => e = .returned (.int .i64 r) ∧ Below w.heap.size w w' := by
  have hv : Hid (r = 35) := hr.out.symm.trans (by
    have h' : ¬ inRp x f.fn.regs := h
    simp only [opE, opndE, Int.reduceEq, false_and, false_or, or_false, true_or, or_true, if_false, if_true, if_neg h'])
  go_enter Tryz.func174, Tryz.ntmps174
  go_wp2_with (first | (go_at_call 171; (with_reducible refine (below_f _ _ _ (by omega)).mono ?_); rintro e w' ⟨rfl, rfl⟩) | (go_at_call 180; (with_reducible refine (unless_f _ _).mono ?_); rintro e w' ⟨rfl, rfl⟩))
  go_ret
  exact ⟨ret_i hv.out.symm, boxed3 _ _ _ _⟩
theorem op_o_t (hx : ¬ x = -1) (h : 0 ≤ x ∧ x < f.regs) (hr : Hid (opE M f i x 111 = r)) : Calls Tryz.prog 174 #[M.val, f.val, i.val, .int .u8 111, .int .i64 x] w fun e w' => e = .returned (.int .i64 r) ∧ Below w.heap.size w w' := by
  have hv : Hid (r = 0) := hr.out.symm.trans (by
    have h' : inRp x f.fn.regs := h
    simp only [opE, opndE, hx, and_false, Int.reduceEq, false_and, false_or, or_false, true_or, or_true, if_false, if_true, if_pos h'])
  go_enter Tryz.func174, Tryz.ntmps174
  go_wp2_with (first | (go_at_call 171; (with_reducible refine (below_t _ _ _ (by omega)).mono ?_); rintro e w' ⟨rfl, rfl⟩) | (go_at_call 180; (with_reducible refine (unless_t _ _).mono ?_); rintro e w' ⟨rfl, rfl⟩))
  go_ret
  exact ⟨ret_i hv.out.symm, boxed3 _ _ _ _⟩
theorem op_o_f (hx : ¬ x = -1) (h : ¬ (0 ≤ x ∧ x < f.regs)) (hr : Hid (opE M f i x 111 = r)) : Calls Tryz.prog 174 #[M.val, f.val, i.val, .int .u8 111, .int .i64 x] w fun e w' => e = .returned (.int .i64 r) ∧ Below w.heap.size w w' := by
  have hv : Hid (r = 35) := hr.out.symm.trans (by
    have h' : ¬ inRp x f.fn.regs := h
    simp only [opE, opndE, hx, and_false, Int.reduceEq, false_and, false_or, or_false, true_or, or_true, if_false, if_true, if_neg h'])
  go_enter Tryz.func174, Tryz.ntmps174
  go_wp2_with (first | (go_at_call 171; (with_reducible refine (below_f _ _ _ (by omega)).mono ?_); rintro e w' ⟨rfl, rfl⟩) | (go_at_call 180; (with_reducible refine (unless_f _ _).mono ?_); rintro e w' ⟨rfl, rfl⟩))
  go_ret
  exact ⟨ret_i hv.out.symm, boxed3 _ _ _ _⟩
theorem op_v_t (h : 0 ≤ x ∧ x < (M.vars.length : Int)) (hr : Hid (opE M f i x 118 = r)) : Calls Tryz.prog 174 #[M.val, f.val, i.val, .int .u8 118, .int .i64 x] w fun e w' => e = .returned (.int .i64 r) ∧ Below w.heap.size w w' := by
  have hv : Hid (r = 0) := hr.out.symm.trans (by
    have h' : inRp x M.pr.vars.length := h
    simp only [opE, opndE, Int.reduceEq, false_and, false_or, or_false, true_or, or_true, if_false, if_true, if_pos h'])
  go_enter Tryz.func174, Tryz.ntmps174
  go_wp2_with (first | (go_at_call 171; (with_reducible refine (below_t _ _ _ (by omega)).mono ?_); rintro e w' ⟨rfl, rfl⟩) | (go_at_call 180; (with_reducible refine (unless_t _ _).mono ?_); rintro e w' ⟨rfl, rfl⟩))
  go_ret
  exact ⟨ret_i hv.out.symm, boxed3 _ _ _ _⟩
theorem op_v_f (h : ¬ (0 ≤ x ∧ x < (M.vars.length : Int))) (hr : Hid (opE M f i x 118 = r)) : Calls Tryz.prog 174 #[M.val, f.val, i.val, .int .u8 118, .int .i64 x] w fun e w' => e = .returned (.int .i64 r) ∧ Below w.heap.size w w' := by
  have hv : Hid (r = 36) := hr.out.symm.trans (by
    have h' : ¬ inRp x M.pr.vars.length := h
    simp only [opE, opndE, Int.reduceEq, false_and, false_or, or_false, true_or, or_true, if_false, if_true, if_neg h'])
  go_enter Tryz.func174, Tryz.ntmps174
  go_wp2_with (first | (go_at_call 171; (with_reducible refine (below_f _ _ _ (by omega)).mono ?_); rintro e w' ⟨rfl, rfl⟩) | (go_at_call 180; (with_reducible refine (unless_f _ _).mono ?_); rintro e w' ⟨rfl, rfl⟩))
  go_ret
  exact ⟨ret_i hv.out.symm, boxed3 _ _ _ _⟩
theorem op_l_t (h : 0 ≤ x ∧ x < M.locks) (hr : Hid (opE M f i x 108 = r)) : Calls Tryz.prog 174 #[M.val, f.val, i.val, .int .u8 108, .int .i64 x] w fun e w' => e = .returned (.int .i64 r) ∧ Below w.heap.size w w' := by
  have hv : Hid (r = 0) := hr.out.symm.trans (by
    have h' : inRp x M.pr.locks := h
    simp only [opE, opndE, Int.reduceEq, false_and, false_or, or_false, true_or, or_true, if_false, if_true, if_pos h'])
  go_enter Tryz.func174, Tryz.ntmps174
  go_wp2_with (first | (go_at_call 171; (with_reducible refine (below_t _ _ _ (by omega)).mono ?_); rintro e w' ⟨rfl, rfl⟩) | (go_at_call 180; (with_reducible refine (unless_t _ _).mono ?_); rintro e w' ⟨rfl, rfl⟩))
  go_ret
  exact ⟨ret_i hv.out.symm, boxed3 _ _ _ _⟩
theorem op_l_f (h : ¬ (0 ≤ x ∧ x < M.locks)) (hr : Hid (opE M f i x 108 = r)) : Calls Tryz.prog 174 #[M.val, f.val, i.val, .int .u8 108, .int .i64 x] w fun e w' => e = .returned (.int .i64 r) ∧ Below w.heap.size w w' := by
  have hv : Hid (r = 36) := hr.out.symm.trans (by
    have h' : ¬ inRp x M.pr.locks := h
    simp only [opE, opndE, Int.reduceEq, false_and, false_or, or_false, true_or, or_true, if_false, if_true, if_neg h'])
  go_enter Tryz.func174, Tryz.ntmps174
  go_wp2_with (first | (go_at_call 171; (with_reducible refine (below_f _ _ _ (by omega)).mono ?_); rintro e w' ⟨rfl, rfl⟩) | (go_at_call 180; (with_reducible refine (unless_f _ _).mono ?_); rintro e w' ⟨rfl, rfl⟩))
  go_ret
  exact ⟨ret_i hv.out.symm, boxed3 _ _ _ _⟩
theorem op_c_t (h : 0 ≤ x ∧ x < (M.chans.length : Int)) (hr : Hid (opE M f i x 99 = r)) : Calls Tryz.prog 174 #[M.val, f.val, i.val, .int .u8 99, .int .i64 x] w fun e w' => e = .returned (.int .i64 r) ∧ Below w.heap.size w w' := by
  have hv : Hid (r = 0) := hr.out.symm.trans (by
    have h' : inRp x M.pr.chans.length := h
    simp only [opE, opndE, Int.reduceEq, false_and, false_or, or_false, true_or, or_true, if_false, if_true, if_pos h'])
  go_enter Tryz.func174, Tryz.ntmps174
  go_wp2_with (first | (go_at_call 171; (with_reducible refine (below_t _ _ _ (by omega)).mono ?_); rintro e w' ⟨rfl, rfl⟩) | (go_at_call 180; (with_reducible refine (unless_t _ _).mono ?_); rintro e w' ⟨rfl, rfl⟩))
  go_ret
  exact ⟨ret_i hv.out.symm, boxed3 _ _ _ _⟩
theorem op_c_f (h : ¬ (0 ≤ x ∧ x < (M.chans.length : Int))) (hr : Hid (opE M f i x 99 = r)) : Calls Tryz.prog 174 #[M.val, f.val, i.val, .int .u8 99, .int .i64 x] w fun e w' => e = .returned (.int .i64 r) ∧ Below w.heap.size w w' := by
  have hv : Hid (r = 36) := hr.out.symm.trans (by
    have h' : ¬ inRp x M.pr.chans.length := h
    simp only [opE, opndE, Int.reduceEq, false_and, false_or, or_false, true_or, or_true, if_false, if_true, if_neg h'])
  go_enter Tryz.func174, Tryz.ntmps174
  go_wp2_with (first | (go_at_call 171; (with_reducible refine (below_f _ _ _ (by omega)).mono ?_); rintro e w' ⟨rfl, rfl⟩) | (go_at_call 180; (with_reducible refine (unless_f _ _).mono ?_); rintro e w' ⟨rfl, rfl⟩))
  go_ret
  exact ⟨ret_i hv.out.symm, boxed3 _ _ _ _⟩
theorem op_s_t (h : 0 ≤ x ∧ x < (f.sels.length : Int)) (hr : Hid (opE M f i x 115 = r)) : Calls Tryz.prog 174 #[M.val, f.val, i.val, .int .u8 115, .int .i64 x] w fun e w' => e = .returned (.int .i64 r) ∧ Below w.heap.size w w' := by
  have hv : Hid (r = 0) := hr.out.symm.trans (by
    have h' : inRp x (f.fn.sels.length : Int) := by rw [show (f.fn.sels.length : Int) = f.sels.length from by simp [MFn.fn]]; exact h
    simp only [opE, opndE, Int.reduceEq, false_and, false_or, or_false, true_or, or_true, if_false, if_true, if_pos h'])
  go_enter Tryz.func174, Tryz.ntmps174
  go_wp2_with (first | (go_at_call 171; (with_reducible refine (below_t _ _ _ (by omega)).mono ?_); rintro e w' ⟨rfl, rfl⟩) | (go_at_call 180; (with_reducible refine (unless_t _ _).mono ?_); rintro e w' ⟨rfl, rfl⟩))
  go_ret
  exact ⟨ret_i hv.out.symm, boxed3 _ _ _ _⟩
theorem op_s_f (h : ¬ (0 ≤ x ∧ x < (f.sels.length : Int))) (hr : Hid (opE M f i x 115 = r)) : Calls Tryz.prog 174 #[M.val, f.val, i.val, .int .u8 115, .int .i64 x] w fun e w' => e = .returned (.int .i64 r) ∧ Below w.heap.size w w' := by
  have hv : Hid (r = 36) := hr.out.symm.trans (by
    have h' : ¬ inRp x (f.fn.sels.length : Int) := by rw [show (f.fn.sels.length : Int) = f.sels.length from by simp [MFn.fn]]; exact h
    simp only [opE, opndE, Int.reduceEq, false_and, false_or, or_false, true_or, or_true, if_false, if_true, if_neg h'])
  go_enter Tryz.func174, Tryz.ntmps174
  go_wp2_with (first | (go_at_call 171; (with_reducible refine (below_f _ _ _ (by omega)).mono ?_); rintro e w' ⟨rfl, rfl⟩) | (go_at_call 180; (with_reducible refine (unless_f _ _).mono ?_); rintro e w' ⟨rfl, rfl⟩))
  go_ret
  exact ⟨ret_i hv.out.symm, boxed3 _ _ _ _⟩
theorem op_f_t (h : 0 ≤ x ∧ x < (M.fns.length : Int)) (hr : Hid (opE M f i x 102 = r)) : Calls Tryz.prog 174 #[M.val, f.val, i.val, .int .u8 102, .int .i64 x] w fun e w' => e = .returned (.int .i64 r) ∧ Below w.heap.size w w' := by
  have hv : Hid (r = 0) := hr.out.symm.trans (by
    have h' : inRp x (M.pr.fns.length : Int) := by rw [show (M.pr.fns.length : Int) = M.fns.length from by simp [MPr.pr]]; exact h
    simp only [opE, opndE, Int.reduceEq, false_and, false_or, or_false, true_or, or_true, if_false, if_true, if_pos h'])
  go_enter Tryz.func174, Tryz.ntmps174
  go_wp2_with (first | (go_at_call 171; (with_reducible refine (below_t _ _ _ (by omega)).mono ?_); rintro e w' ⟨rfl, rfl⟩) | (go_at_call 180; (with_reducible refine (unless_t _ _).mono ?_); rintro e w' ⟨rfl, rfl⟩))
  go_ret
  exact ⟨ret_i hv.out.symm, boxed3 _ _ _ _⟩
theorem op_f_f (h : ¬ (0 ≤ x ∧ x < (M.fns.length : Int))) (hr : Hid (opE M f i x 102 = r)) : Calls Tryz.prog 174 #[M.val, f.val, i.val, .int .u8 102, .int .i64 x] w fun e w' => e = .returned (.int .i64 r) ∧ Below w.heap.size w w' := by
  have hv : Hid (r = 36) := hr.out.symm.trans (by
    have h' : ¬ inRp x (M.pr.fns.length : Int) := by rw [show (M.pr.fns.length : Int) = M.fns.length from by simp [MPr.pr]]; exact h
    simp only [opE, opndE, Int.reduceEq, false_and, false_or, or_false, true_or, or_true, if_false, if_true, if_neg h'])
  go_enter Tryz.func174, Tryz.ntmps174
  go_wp2_with (first | (go_at_call 171; (with_reducible refine (below_f _ _ _ (by omega)).mono ?_); rintro e w' ⟨rfl, rfl⟩) | (go_at_call 180; (with_reducible refine (unless_f _ _).mono ?_); rintro e w' ⟨rfl, rfl⟩))
  go_ret
  exact ⟨ret_i hv.out.symm, boxed3 _ _ _ _⟩
theorem op_t_t (h : 0 ≤ x ∧ x < (f.code.length : Int)) (hr : Hid (opE M f i x 116 = r)) : Calls Tryz.prog 174 #[M.val, f.val, i.val, .int .u8 116, .int .i64 x] w fun e w' => e = .returned (.int .i64 r) ∧ Below w.heap.size w w' := by
  have hv : Hid (r = 0) := hr.out.symm.trans (by
    have h' : inRp x f.fn.code.length := h
    simp only [opE, opndE, Int.reduceEq, false_and, false_or, or_false, true_or, or_true, if_false, if_true, if_pos h'])
  go_enter Tryz.func174, Tryz.ntmps174
  go_wp2_with (first | (go_at_call 171; (with_reducible refine (below_t _ _ _ (by omega)).mono ?_); rintro e w' ⟨rfl, rfl⟩) | (go_at_call 180; (with_reducible refine (unless_t _ _).mono ?_); rintro e w' ⟨rfl, rfl⟩))
  go_ret
  exact ⟨ret_i hv.out.symm, boxed3 _ _ _ _⟩
theorem op_t_f (h : ¬ (0 ≤ x ∧ x < (f.code.length : Int))) (hr : Hid (opE M f i x 116 = r)) : Calls Tryz.prog 174 #[M.val, f.val, i.val, .int .u8 116, .int .i64 x] w fun e w' => e = .returned (.int .i64 r) ∧ Below w.heap.size w w' := by
  have hv : Hid (r = 38) := hr.out.symm.trans (by
    have h' : ¬ inRp x f.fn.code.length := h
    simp only [opE, opndE, Int.reduceEq, false_and, false_or, or_false, true_or, or_true, if_false, if_true, if_neg h'])
  go_enter Tryz.func174, Tryz.ntmps174
  go_wp2_with (first | (go_at_call 171; (with_reducible refine (below_f _ _ _ (by omega)).mono ?_); rintro e w' ⟨rfl, rfl⟩) | (go_at_call 180; (with_reducible refine (unless_f _ _).mono ?_); rintro e w' ⟨rfl, rfl⟩))
  go_ret
  exact ⟨ret_i hv.out.symm, boxed3 _ _ _ _⟩
theorem op_o_none (hx : x = -1) (hr : Hid (opE M f i x 111 = r)) : Calls Tryz.prog 174 #[M.val, f.val, i.val, .int .u8 111, .int .i64 x] w fun e w' => e = .returned (.int .i64 r) ∧ Below w.heap.size w w' := by
  subst hx
  have hv : Hid (r = 0) := hr.out.symm.trans (by simp only [opE, opndE, and_self, if_true])
  go_enter Tryz.func174, Tryz.ntmps174
  go_wp2
  go_ret
  exact ⟨ret_i hv.out.symm, boxed3 _ _ _ _⟩
theorem op_a_t (k : Nat) (y : Vr) (hk : x = (k : Int)) (hy : M.vars[k]? = some y) (hl : M.lies w) (hr : Hid (opE M f i x 97 = r)) : Calls Tryz.prog 174 #[M.val, f.val, i.val, .int .u8 97, .int .i64 x] w fun e w' => e = .returned (.int .i64 r) ∧ Below w.heap.size w w' := by
  have hlt : k < M.vars.length := (List.getElem?_eq_some_iff.mp hy).1
  have h : 0 ≤ x ∧ x < (M.vars.length : Int) := by omega
  obtain ⟨b, o, hix, hbl, c0, c1⟩ := vr_ix hl.1 k y hy
  rw [← hk] at hix
  replace c0 := cell3 c0
  have ha : M.pr.atom x = y.atomic := by rw [hk]; simp [Pr.atom, MPr.pr, hy]
  have hE : opE M f i x 97 = if y.atomic = true then 0 else 37 := by
    have h' : inRp x M.pr.vars.length := h
    simp only [opE, opndE, Int.reduceEq, false_and, false_or, or_false, true_or, or_true, if_false, if_true, if_pos h', ha]
  cases hat : y.atomic with
  | true =>
    have hv : Hid (r = 0) := hr.out.symm.trans (by rw [hE, if_pos hat])
    clear ha hE hl hy hk c1 hr
    rw [hat] at c0
    go_enter Tryz.func174, Tryz.ntmps174
    go_wp2_with (first | (go_at_call 171; (with_reducible refine (below_t _ _ _ (by omega)).mono ?_); rintro e w' ⟨rfl, rfl⟩) | (go_at_call 180; (with_reducible refine (unless_t _ _).mono ?_); rintro e w' ⟨rfl, rfl⟩))
    go_ret
    exact ⟨ret_i hv.out.symm, boxed3 _ _ _ _⟩
  | false =>
    have hv : Hid (r = 37) := hr.out.symm.trans (by rw [hE, if_neg (by simp [hat])])
    clear ha hE hl hy hk c1 hr
    rw [hat] at c0
    go_enter Tryz.func174, Tryz.ntmps174
    go_wp2_with (first | (go_at_call 171; (with_reducible refine (below_t _ _ _ (by omega)).mono ?_); rintro e w' ⟨rfl, rfl⟩) | (go_at_call 180; (with_reducible refine (unless_f _ _).mono ?_); rintro e w' ⟨rfl, rfl⟩))
    go_ret
    exact ⟨ret_i hv.out.symm, boxed3 _ _ _ _⟩
theorem op_a_f (h : ¬ (0 ≤ x ∧ x < (M.vars.length : Int))) (hr : Hid (opE M f i x 97 = r)) : Calls Tryz.prog 174 #[M.val, f.val, i.val, .int .u8 97, .int .i64 x] w fun e w' => e = .returned (.int .i64 r) ∧ Below w.heap.size w w' := by
  have hv : Hid (r = 36) := hr.out.symm.trans (by
    have h' : ¬ inRp x M.pr.vars.length := h
    simp only [opE, opndE, Int.reduceEq, false_and, false_or, or_false, true_or, or_true, if_false, if_true, if_neg h'])
  go_enter Tryz.func174, Tryz.ntmps174
  go_wp2_with (first | (go_at_call 171; (with_reducible refine (below_f _ _ _ (by omega)).mono ?_); rintro e w' ⟨rfl, rfl⟩) | (go_at_call 180; (with_reducible refine (unless_f _ _).mono ?_); rintro e w' ⟨rfl, rfl⟩))
  go_ret
  exact ⟨ret_i hv.out.symm, boxed3 _ _ _ _⟩
end
end Go.Proofs.YtafefnkgdnmjbaaGreatDoor.pg.pp
/- The contracts of package prog's looks at parameters of a spawn, and at whole instructions. -/
namespace Go.Proofs.YtafefnkgdnmjbaaGreatDoor.pg.pp
open Go.ChangeShapes Go.WideShapes Go.ChangeAt Go.RowKit
set_option linter.unusedVariables false
set_option linter.unusedSimpArgs false
set_option maxRecDepth 100000
section
variable (M : MPr) (f : MFn) (i : Ins) (x : Int) (w : World) (r : Int) (l : Int)
theorem op_p (k : Nat) (y : MFn) (hk : i.b = (k : Int)) (hy : M.fns[k]? = some y) (hl : M.lies w) (hw : i.wf) (h0 : 0 ≤ f.regs) (h8 : f.regs ≤ 8) (hr : Hid (opE M f i x 112 = r)) :
    Calls Tryz.prog 174 #[M.val, f.val, i.val, .int .u8 112, .int .i64 x] w fun e w' => e = .returned (.int .i64 r) ∧ Below w.heap.size w w' := by
  have hlt : k < M.fns.length := (List.getElem?_eq_some_iff.mp hy).1
  have hp : M.pr.par i.b = y.params := by rw [hk]; simp [Pr.par, MPr.pr, MFn.fn, hy]
  have hb1 := boxed w (objP M)
  have hb2 := boxed (w.alloc (objP M)) (objF f)
  have hb3 := boxed ((w.alloc (objP M)).alloc (objF f)) (objI i)
  have hb := boxed3 w (objP M) (objF f) (objI i)
  obtain ⟨p0, p1, p2, p3⟩ := ((boxP_new w M).later hb2).later hb3
  have bF := (boxF_new (w.alloc (objP M)) f).later hb3
  have bI := boxI_new ((w.alloc (objP M)).alloc (objF f)) i
  simp only [World.size_alloc] at bF bI
  obtain ⟨f0, f1, f2, f3⟩ := bF
  obtain ⟨i0, i1, i2, i3, i4⟩ := bI
  obtain ⟨b, o, hix, hbl, c0, c1, c2, c3⟩ := fn_ix (hl.later hb).2.2.1 k y hy
  rw [← hk] at hix
  have hyp : I64 y.params := (hl.2.2.2.2.2.2 y (List.mem_of_getElem? hy)).2.2.2.2.1
  have hic : I64 i.c := hw.2.2.2.1
  obtain ⟨rb, hrb⟩ : ∃ rb, Hid (decide (roomP y.params i.c f.regs) = rb) := ⟨_, rfl⟩
  have hv : Hid (r = if rb = true then 0 else 35) := hr.out.symm.trans (by
    simp only [opE, opndE, Int.reduceEq, false_and, false_or, or_false, true_or, or_true, if_false, if_true, hp]
    rw [← hrb.out]
    simp only [decide_eq_true_eq])
  have hR : ∀ wx, Calls Tryz.prog 181 #[.int .i64 y.params, .int .i64 i.c, .int .i64 f.regs] wx _ := fun wx => roomFor_any y.params i.c f.regs wx hyp hic h0 h8 rb hrb
  clear hb1 hb2 hb3 hl hw hy hp hyp hic hr
  have hbI : 0 ≤ i.b ∧ i.b < (M.fns.length : Int) := by omega
  clear hk hlt
  go_enter Tryz.func174, Tryz.ntmps174
  go_wp2_with fail
  generalize ((w.alloc (objP M)).alloc (objF f)).alloc (objI i) = W at *
  cases rb with
  | true =>
    go_quiet (first | (go_at_call 181; exact Calls.quiet_of_same (hR _)) | (go_at_call 180; exact Calls.quiet_of_same (unless_t _ _)))
    go_wp2
    go_ret
    exact ⟨ret_i hv.out.symm, below_drewN hb _⟩
  | false =>
    go_quiet (first | (go_at_call 181; exact Calls.quiet_of_same (hR _)) | (go_at_call 180; exact Calls.quiet_of_same (unless_f _ _)))
    go_wp2
    go_ret
    exact ⟨ret_i hv.out.symm, below_drewN hb _⟩
theorem op_else (h1 : ¬ l = 111) (h2 : ¬ l = 114) (h3 : ¬ l = 119) (h4 : ¬ l = 112) (h5 : ¬ l = 97) (h6 : ¬ l = 118) (h7 : ¬ l = 108) (h8 : ¬ l = 99) (h9 : ¬ l = 115) (h10 : ¬ l = 102) (h11 : ¬ l = 116) (hr : Hid (opE M f i x l = r)) :
    Calls Tryz.prog 174 #[M.val, f.val, i.val, .int .u8 l, .int .i64 x] w fun e w' => e = .returned (.int .i64 r) ∧ Below w.heap.size w w' := by
  have hv : Hid (r = 0) := hr.out.symm.trans (by simp only [opE, opndE, h1, h2, h3, h4, h5, h6, h7, h8, h9, h10, h11, false_and, or_self, if_false])
  go_enter Tryz.func174, Tryz.ntmps174
  go_wp2
  go_ret
  exact ⟨ret_i hv.out.symm, boxed3 _ _ _ _⟩
/-- Every operand, whatever its letter. -/
theorem checkOperand_any (hl : M.lies w) (hw : i.wf) (h0 : 0 ≤ f.regs) (h8 : f.regs ≤ 8) (hp : l = 112 → 0 ≤ i.b ∧ i.b < (M.fns.length : Int)) (hr : Hid (opE M f i x l = r)) :
    Calls Tryz.prog 174 #[M.val, f.val, i.val, .int .u8 l, .int .i64 x] w fun e w' => e = .returned (.int .i64 r) ∧ Below w.heap.size w w' := by
  by_cases l1 : l = 111
  · subst l1
    by_cases hx : x = -1
    · exact op_o_none M f i x w r hx hr
    by_cases h : 0 ≤ x ∧ x < f.regs
    · exact op_o_t M f i x w r hx h hr
    · exact op_o_f M f i x w r hx h hr
  by_cases l2 : l = 114
  · subst l2
    by_cases h : 0 ≤ x ∧ x < f.regs
    · exact op_r_t M f i x w r h hr
    · exact op_r_f M f i x w r h hr
  by_cases l3 : l = 119
  · subst l3
    by_cases h : 0 ≤ x ∧ x < f.regs
    · exact op_w_t M f i x w r h hr
    · exact op_w_f M f i x w r h hr
  by_cases l4 : l = 112
  · subst l4
    have hb := hp rfl
    obtain ⟨y, hy, _⟩ := get_lt M.fns i.b.toNat (by omega)
    exact op_p M f i x w r i.b.toNat y (by omega) hy hl hw h0 h8 hr
  by_cases l5 : l = 97
  · subst l5
    by_cases h : 0 ≤ x ∧ x < (M.vars.length : Int)
    · obtain ⟨y, hy, _⟩ := get_lt M.vars x.toNat (by omega)
      exact op_a_t M f i x w r x.toNat y (by omega) hy hl hr
    · exact op_a_f M f i x w r h hr
  by_cases l6 : l = 118
  · subst l6
    by_cases h : 0 ≤ x ∧ x < (M.vars.length : Int)
    · exact op_v_t M f i x w r h hr
    · exact op_v_f M f i x w r h hr
  by_cases l7 : l = 108
  · subst l7
    by_cases h : 0 ≤ x ∧ x < M.locks
    · exact op_l_t M f i x w r h hr
    · exact op_l_f M f i x w r h hr
  by_cases l8 : l = 99
  · subst l8
    by_cases h : 0 ≤ x ∧ x < (M.chans.length : Int)
    · exact op_c_t M f i x w r h hr
    · exact op_c_f M f i x w r h hr
  by_cases l9 : l = 115
  · subst l9
    by_cases h : 0 ≤ x ∧ x < (f.sels.length : Int)
    · exact op_s_t M f i x w r h hr
    · exact op_s_f M f i x w r h hr
  by_cases l10 : l = 102
  · subst l10
    by_cases h : 0 ≤ x ∧ x < (M.fns.length : Int)
    · exact op_f_t M f i x w r h hr
    · exact op_f_f M f i x w r h hr
  by_cases l11 : l = 116
  · subst l11
    by_cases h : 0 ≤ x ∧ x < (f.code.length : Int)
    · exact op_t_t M f i x w r h hr
    · exact op_t_f M f i x w r h hr
  exact op_else M f i x w r l l1 l2 l3 l4 l5 l6 l7 l8 l9 l10 l11 hr
end
/-- The form that is read is the form that is meant. -/
theorem frm_form (op : Int) : prog.frm op = ⟨((formOf op).map fun x => UInt8.ofNat x.toNat).toArray⟩ := by
  by_cases h : 0 ≤ op ∧ op < 66
  · obtain ⟨n, rfl⟩ : ∃ n : Nat, op = (n : Int) := ⟨op.toNat, by omega⟩
    have key : ∀ n : Fin 66, (prog.frm ((n.val : Nat) : Int)).data.toList = (formOf ((n.val : Nat) : Int)).map fun x => UInt8.ofNat x.toNat := by decide
    have := key ⟨n, by omega⟩
    apply ByteArray.ext
    rw [← this]
  · have h1 : formOf op = [] := by
      unfold formOf
      repeat rw [if_neg (by omega)]
    rw [h1]
    unfold prog.frm
    by_cases h2 : op < 0
    · rw [if_pos h2]; rfl
    · rw [if_neg h2, if_neg (by omega), if_neg (by omega), if_neg (by omega)]; rfl
end Go.Proofs.YtafefnkgdnmjbaaGreatDoor.pg.pp
/- Forms and instructions, as plain mathematics. -/
namespace Go.Proofs.YtafefnkgdnmjbaaGreatDoor.pg
set_option linter.unusedVariables false
theorem formOf_big (op : Int) (h : ¬ (0 ≤ op ∧ op < 66)) : formOf op = [] := by
  unfold formOf
  repeat rw [if_neg (by omega)]
/-- A form has four letters, each a byte, or none at all. -/
theorem formOf_four (op : Int) : formOf op = [] ∨ ∃ a b c d : Nat, formOf op = [(a : Int), (b : Int), (c : Int), (d : Int)] ∧ a < 256 ∧ b < 256 ∧ c < 256 ∧ d < 256 := by
  by_cases h : 0 ≤ op ∧ op < 66
  · obtain ⟨n, rfl⟩ : ∃ n : Nat, op = (n : Int) := ⟨op.toNat, by omega⟩
    have key : ∀ n : Fin 66, formOf ((n.val : Nat) : Int) = [] ∨ ((formOf ((n.val : Nat) : Int)).length = 4 ∧ ∀ x ∈ formOf ((n.val : Nat) : Int), 0 ≤ x ∧ x < 256) := by decide
    rcases key ⟨n, by omega⟩ with h | ⟨h1, h2⟩
    · exact .inl h
    · right
      simp only at h1 h2
      match hf : formOf (n : Int), h1 with
      | [a, b, c, d], _ =>
        rw [hf] at h2
        have ha := h2 a (by simp)
        have hb := h2 b (by simp)
        have hc := h2 c (by simp)
        have hd := h2 d (by simp)
        exact ⟨a.toNat, b.toNat, c.toNat, d.toNat, by rw [Int.toNat_of_nonneg ha.1, Int.toNat_of_nonneg hb.1, Int.toNat_of_nonneg hc.1, Int.toNat_of_nonneg hd.1], by omega, by omega, by omega, by omega⟩
  · exact .inl (formOf_big op h)
/-- Where the letter p stands: behind the letter f. -/
theorem p_where (op : Int) (k : Nat) (h : lt op k = 112) : k = 2 ∧ lt op 1 = 102 := by
  by_cases ho : 0 ≤ op ∧ op < 66
  · obtain ⟨n, rfl⟩ : ∃ n : Nat, op = (n : Int) := ⟨op.toNat, by omega⟩
    have key : ∀ n : Fin 66, (∀ k : Fin 4, lt ((n.val : Nat) : Int) k.val = 112 → k.val = 2 ∧ lt ((n.val : Nat) : Int) 1 = 102) ∧ (formOf ((n.val : Nat) : Int)).length ≤ 4 := by decide
    have k4 : k < 4 := by
      have h4 := (key ⟨n, by omega⟩).2
      simp only at h4
      apply Classical.byContradiction
      intro hk
      unfold lt at h
      rw [List.getD_eq_getElem?_getD, List.getElem?_eq_none (by omega)] at h
      simp at h
    exact (key ⟨n, by omega⟩).1 ⟨k, k4⟩ h
  · unfold lt at h
    rw [formOf_big op ho] at h
    simp at h
theorem insE_op {r : Prop} [Decidable r] {P : Pr} {f : Fn} {i : Ins} (h : formOf i.op = []) : insE r P f i = 33 := by unfold insE; rw [if_neg (fun q => q h)]
theorem unused_iff (i : Ins) : unused i ↔ ∃ j, j < 4 ∧ lt i.op j = 45 ∧ i.x j ≠ 0 := by
  constructor
  · rintro (h | h | h | h)
    · exact ⟨0, by omega, h⟩
    · exact ⟨1, by omega, h⟩
    · exact ⟨2, by omega, h⟩
    · exact ⟨3, by omega, h⟩
  · rintro ⟨j, hj, h⟩
    match j, hj, h with
    | 0, _, h => exact .inl h
    | 1, _, h => exact .inr (.inl h)
    | 2, _, h => exact .inr (.inr (.inl h))
    | 3, _, h => exact .inr (.inr (.inr h))
theorem insE_unused {r : Prop} [Decidable r] {P : Pr} {f : Fn} {i : Ins} (h : formOf i.op ≠ []) (hu : unused i) : insE r P f i = 34 := by unfold insE; rw [if_pos h, if_pos hu]
/-- The first error of four. -/
theorem fst4_hit (g : Nat → Int) (k : Nat) (hk : k < 4) (h : ∀ j, j < k → g j = 0) (hx : g k ≠ 0) : fst4 (g 0) (g 1) (g 2) (g 3) = g k := by
  unfold fst4
  match k, hk with
  | 0, _ => rw [if_neg hx]
  | 1, _ => rw [if_pos (h 0 (by omega)), if_neg hx]
  | 2, _ => rw [if_pos (h 0 (by omega)), if_pos (h 1 (by omega)), if_neg hx]
  | 3, _ => rw [if_pos (h 0 (by omega)), if_pos (h 1 (by omega)), if_pos (h 2 (by omega))]
theorem insE_hit {r : Prop} [Decidable r] {P : Pr} {f : Fn} {i : Ins} (h : formOf i.op ≠ []) (hu : ¬ unused i) (k : Nat) (hk : k < 4) (hb : ∀ j, j < k → opndE r P f (lt i.op j) (i.x j) = 0) (hx : opndE r P f (lt i.op k) (i.x k) ≠ 0) :
    insE r P f i = opndE r P f (lt i.op k) (i.x k) := by
  unfold insE; rw [if_pos h, if_neg hu]
  exact fst4_hit (fun j => opndE r P f (lt i.op j) (i.x j)) k hk hb hx
theorem insE_ok {r : Prop} [Decidable r] {P : Pr} {f : Fn} {i : Ins} (h : formOf i.op ≠ []) (hu : ¬ unused i) (hb : ∀ j, j < 4 → opndE r P f (lt i.op j) (i.x j) = 0) : insE r P f i = 0 := by
  unfold insE fst4; rw [if_pos h, if_neg hu]
  have h0 := hb 0 (by omega)
  have h1 := hb 1 (by omega)
  have h2 := hb 2 (by omega)
  have h3 := hb 3 (by omega)
  simp only [Ins.x] at h0 h1 h2 h3
  rw [if_pos h0, if_pos h1, if_pos h2, h3]
end Go.Proofs.YtafefnkgdnmjbaaGreatDoor.pg
