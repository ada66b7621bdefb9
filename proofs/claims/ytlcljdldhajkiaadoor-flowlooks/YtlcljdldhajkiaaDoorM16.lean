/- The contracts of the document's own looks at operands. -/
import Derived.Test.YtlcljdldhajkiaaDoorM6
import Derived.Test.YtlcljdldhajkiaaDoorM13
namespace Go.Proofs.YtlcljdldhajkiaaDoor.pg
open Go.ChangeShapes Go.WideShapes Go.ChangeAt Go.RowKit
set_option linter.unusedVariables false
set_option linter.unusedSimpArgs false
set_option maxRecDepth 100000
theorem within_t (x n : Int) (w : World) (h : 0 ≤ x ∧ x < n) : Calls Tryd.prog 63 #[.int .i64 x, .int .i64 n] w fun e w' => e = .returned (.bool true) ∧ w' = w := by
  obtain ⟨h1, h2⟩ := h
  go_enter Tryd.func63, Tryd.ntmps63
  go_wp2
  go_ret
  exact ⟨rfl, rfl⟩
theorem within_f (x n : Int) (w : World) (h : x < 0 ∨ n ≤ x) : Calls Tryd.prog 63 #[.int .i64 x, .int .i64 n] w fun e w' => e = .returned (.bool false) ∧ w' = w := by
  by_cases h1 : 0 ≤ x
  · have h2 : ¬ x < n := by omega
    go_enter Tryd.func63, Tryd.ntmps63
    go_wp2
    go_ret
    exact ⟨rfl, rfl⟩
  · clear h
    go_enter Tryd.func63, Tryd.ntmps63
    go_wp2
    go_ret
    exact ⟨rfl, rfl⟩
section
variable (M : MPr) (f : MFn) (i : Ins) (x : Int) (w : World) (r : Int) (l : Int)
abbrev opR (l : Int) : Int := opndE (roomR (M.pr.par i.b) x f.regs) M.pr f.fn l x
theorem rop_r_t (h : 0 ≤ x ∧ x < f.regs) (hr : Hid (opR M f i x 114 = r)) : Calls Tryd.prog 66 #[M.val, f.val, .int .u8 114, .int .i64 x, i.val] w fun e w' => e = .returned (.int .i64 r) ∧ Below w.heap.size w w' := by
  have hv : Hid (r = 0) := hr.out.symm.trans (by
    have h' : inR x f.fn.regs := h
    simp only [opR, opndE, Int.reduceEq, false_and, false_or, or_false, true_or, or_true, if_false, if_true, if_pos h'])
  go_enter Tryd.func66, Tryd.ntmps66
  go_wp2_with (go_at_call 63; (with_reducible refine (within_t _ _ _ (by omega)).mono ?_); rintro e w' ⟨rfl, rfl⟩)
  go_ret
  exact ⟨ret_i hv.out.symm, boxed3 _ _ _ _⟩
theorem rop_r_f (h : ¬ (0 ≤ x ∧ x < f.regs)) (hr : Hid (opR M f i x 114 = r)) : Calls Tryd.prog 66 #[M.val, f.val, .int .u8 114, .int .i64 x, i.val] w fun e w' => e = .returned (.int .i64 r) ∧ Below w.heap.size w w' := by
  have hv : Hid (r = 35) := hr.out.symm.trans (by
    have h' : ¬ inR x f.fn.regs := h
    simp only [opR, opndE, Int.reduceEq, false_and, false_or, or_false, true_or, or_true, if_false, if_true, if_neg h'])
  go_enter Tryd.func66, Tryd.ntmps66
  go_wp2_with (go_at_call 63; (with_reducible refine (within_f _ _ _ (by omega)).mono ?_); rintro e w' ⟨rfl, rfl⟩)
  go_ret
  exact ⟨ret_i hv.out.symm, boxed3 _ _ _ _⟩
theorem rop_w_t (h : 0 ≤ x ∧ x < f.regs) (hr : Hid (opR M f i x 119 = r)) : Calls Tryd.prog 66 #[M.val, f.val, .int .u8 119, .int .i64 x, i.val] w fun e w' => e = .returned (.int .i64 r) ∧ Below w.heap.size w w' := by
  have hv : Hid (r = 0) := hr.out.symm.trans (by
    have h' : inR x f.fn.regs := h
    simp only [opR, opndE, Int.reduceEq, false_and, false_or, or_false, true_or, or_true, if_false, if_true, if_pos h'])
  go_enter Tryd.func66, Tryd.ntmps66
  go_wp2_with (go_at_call 63; (with_reducible refine (within_t _ _ _ (by omega)).mono ?_); rintro e w' ⟨rfl, rfl⟩)
  go_ret
  exact ⟨ret_i hv.out.symm, boxed3 _ _ _ _⟩
theorem rop_w_f (h : ¬ (0 ≤ x ∧ x < f.regs)) (hr : Hid (opR M f i x 119 = r)) : Calls Tryd.prog 66 #[M.val, f.val, .int .u8 119, .int .i64 x, i.val] w fun e w' => e = .returned (.int .i64 r) ∧ Below w.heap.size w w' := by
  have hv : Hid (r = 35) := hr.out.symm.trans (by
    have h' : ¬ inR x f.fn.regs := h
    simp only [opR, opndE, Int.reduceEq, false_and, false_or, or_false, true_or, or_true, if_false, if_true, if_neg h'])
  go_enter Tryd.func66, Tryd.ntmps66
  go_wp2_with (go_at_call 63; (with_reducible refine (within_f _ _ _ (by omega)).mono ?_); rintro e w' ⟨rfl, rfl⟩)
  go_ret
  exact ⟨ret_i hv.out.symm, boxed3 _ _ _ _⟩
theorem rop_o_t (hx : ¬ x = -1) (h : 0 ≤ x ∧ x < f.regs) (hr : Hid (opR M f i x 111 = r)) : Calls Tryd.prog 66 #[M.val, f.val, .int .u8 111, .int .i64 x, i.val] w fun e w' => e = .returned (.int .i64 r) ∧ Below w.heap.size w w' := by
  have hv : Hid (r = 0) := hr.out.symm.trans (by
    have h' : inR x f.fn.regs := h
    simp only [opR, opndE, hx, and_false, Int.reduceEq, false_and, false_or, or_false, true_or, or_true, if_false, if_true, if_pos h'])
  go_enter Tryd.func66, Tryd.ntmps66
  go_wp2_with (go_at_call 63; (with_reducible refine (within_t _ _ _ (by omega)).mono ?_); rintro e w' ⟨rfl, rfl⟩)
  go_ret
  exact ⟨ret_i hv.out.symm, boxed3 _ _ _ _⟩
theorem rop_o_f (hx : ¬ x = -1) (h : ¬ (0 ≤ x ∧ x < f.regs)) (hr : Hid (opR M f i x 111 = r)) : Calls Tryd.prog 66 #[M.val, f.val, .int .u8 111, .int .i64 x, i.val] w fun e w' => e = .returned (.int .i64 r) ∧ Below w.heap.size w w' := by
  have hv : Hid (r = 35) := hr.out.symm.trans (by
    have h' : ¬ inR x f.fn.regs := h
    simp only [opR, opndE, hx, and_false, Int.reduceEq, false_and, false_or, or_false, true_or, or_true, if_false, if_true, if_neg h'])
  go_enter Tryd.func66, Tryd.ntmps66
  go_wp2_with (go_at_call 63; (with_reducible refine (within_f _ _ _ (by omega)).mono ?_); rintro e w' ⟨rfl, rfl⟩)
  go_ret
  exact ⟨ret_i hv.out.symm, boxed3 _ _ _ _⟩
theorem rop_v_t (h : 0 ≤ x ∧ x < (M.vars.length : Int)) (hr : Hid (opR M f i x 118 = r)) : Calls Tryd.prog 66 #[M.val, f.val, .int .u8 118, .int .i64 x, i.val] w fun e w' => e = .returned (.int .i64 r) ∧ Below w.heap.size w w' := by
  have hv : Hid (r = 0) := hr.out.symm.trans (by
    have h' : inR x M.pr.vars.length := h
    simp only [opR, opndE, Int.reduceEq, false_and, false_or, or_false, true_or, or_true, if_false, if_true, if_pos h'])
  go_enter Tryd.func66, Tryd.ntmps66
  go_wp2_with (go_at_call 63; (with_reducible refine (within_t _ _ _ (by omega)).mono ?_); rintro e w' ⟨rfl, rfl⟩)
  go_ret
  exact ⟨ret_i hv.out.symm, boxed3 _ _ _ _⟩
theorem rop_v_f (h : ¬ (0 ≤ x ∧ x < (M.vars.length : Int))) (hr : Hid (opR M f i x 118 = r)) : Calls Tryd.prog 66 #[M.val, f.val, .int .u8 118, .int .i64 x, i.val] w fun e w' => e = .returned (.int .i64 r) ∧ Below w.heap.size w w' := by
  have hv : Hid (r = 36) := hr.out.symm.trans (by
    have h' : ¬ inR x M.pr.vars.length := h
    simp only [opR, opndE, Int.reduceEq, false_and, false_or, or_false, true_or, or_true, if_false, if_true, if_neg h'])
  go_enter Tryd.func66, Tryd.ntmps66
  go_wp2_with (go_at_call 63; (with_reducible refine (within_f _ _ _ (by omega)).mono ?_); rintro e w' ⟨rfl, rfl⟩)
  go_ret
  exact ⟨ret_i hv.out.symm, boxed3 _ _ _ _⟩
theorem rop_l_t (h : 0 ≤ x ∧ x < M.locks) (hr : Hid (opR M f i x 108 = r)) : Calls Tryd.prog 66 #[M.val, f.val, .int .u8 108, .int .i64 x, i.val] w fun e w' => e = .returned (.int .i64 r) ∧ Below w.heap.size w w' := by
  have hv : Hid (r = 0) := hr.out.symm.trans (by
    have h' : inR x M.pr.locks := h
    simp only [opR, opndE, Int.reduceEq, false_and, false_or, or_false, true_or, or_true, if_false, if_true, if_pos h'])
  go_enter Tryd.func66, Tryd.ntmps66
  go_wp2_with (go_at_call 63; (with_reducible refine (within_t _ _ _ (by omega)).mono ?_); rintro e w' ⟨rfl, rfl⟩)
  go_ret
  exact ⟨ret_i hv.out.symm, boxed3 _ _ _ _⟩
theorem rop_l_f (h : ¬ (0 ≤ x ∧ x < M.locks)) (hr : Hid (opR M f i x 108 = r)) : Calls Tryd.prog 66 #[M.val, f.val, .int .u8 108, .int .i64 x, i.val] w fun e w' => e = .returned (.int .i64 r) ∧ Below w.heap.size w w' := by
  have hv : Hid (r = 36) := hr.out.symm.trans (by
    have h' : ¬ inR x M.pr.locks := h
    simp only [opR, opndE, Int.reduceEq, false_and, false_or, or_false, true_or, or_true, if_false, if_true, if_neg h'])
  go_enter Tryd.func66, Tryd.ntmps66
  go_wp2_with (go_at_call 63; (with_reducible refine (within_f _ _ _ (by omega)).mono ?_); rintro e w' ⟨rfl, rfl⟩)
  go_ret
  exact ⟨ret_i hv.out.symm, boxed3 _ _ _ _⟩
theorem rop_c_t (h : 0 ≤ x ∧ x < (M.chans.length : Int)) (hr : Hid (opR M f i x 99 = r)) : Calls Tryd.prog 66 #[M.val, f.val, .int .u8 99, .int .i64 x, i.val] w fun e w' => e = .returned (.int .i64 r) ∧ Below w.heap.size w w' := by
  have hv : Hid (r = 0) := hr.out.symm.trans (by
    have h' : inR x M.pr.chans.length := h
    simp only [opR, opndE, Int.reduceEq, false_and, false_or, or_false, true_or, or_true, if_false, if_true, if_pos h'])
  go_enter Tryd.func66, Tryd.ntmps66
  go_wp2_with (go_at_call 63; (with_reducible refine (within_t _ _ _ (by omega)).mono ?_); rintro e w' ⟨rfl, rfl⟩)
  go_ret
  exact ⟨ret_i hv.out.symm, boxed3 _ _ _ _⟩
theorem rop_c_f (h : ¬ (0 ≤ x ∧ x < (M.chans.length : Int))) (hr : Hid (opR M f i x 99 = r)) : Calls Tryd.prog 66 #[M.val, f.val, .int .u8 99, .int .i64 x, i.val] w fun e w' => e = .returned (.int .i64 r) ∧ Below w.heap.size w w' := by
  have hv : Hid (r = 36) := hr.out.symm.trans (by
    have h' : ¬ inR x M.pr.chans.length := h
    simp only [opR, opndE, Int.reduceEq, false_and, false_or, or_false, true_or, or_true, if_false, if_true, if_neg h'])
  go_enter Tryd.func66, Tryd.ntmps66
  go_wp2_with (go_at_call 63; (with_reducible refine (within_f _ _ _ (by omega)).mono ?_); rintro e w' ⟨rfl, rfl⟩)
  go_ret
  exact ⟨ret_i hv.out.symm, boxed3 _ _ _ _⟩
theorem rop_s_t (h : 0 ≤ x ∧ x < (f.sels.length : Int)) (hr : Hid (opR M f i x 115 = r)) : Calls Tryd.prog 66 #[M.val, f.val, .int .u8 115, .int .i64 x, i.val] w fun e w' => e = .returned (.int .i64 r) ∧ Below w.heap.size w w' := by
  have hv : Hid (r = 0) := hr.out.symm.trans (by
    have h' : inR x (f.fn.sels.length : Int) := by rw [show (f.fn.sels.length : Int) = f.sels.length from by simp [MFn.fn]]; exact h
    simp only [opR, opndE, Int.reduceEq, false_and, false_or, or_false, true_or, or_true, if_false, if_true, if_pos h'])
  go_enter Tryd.func66, Tryd.ntmps66
  go_wp2_with (go_at_call 63; (with_reducible refine (within_t _ _ _ (by omega)).mono ?_); rintro e w' ⟨rfl, rfl⟩)
  go_ret
  exact ⟨ret_i hv.out.symm, boxed3 _ _ _ _⟩
theorem rop_s_f (h : ¬ (0 ≤ x ∧ x < (f.sels.length : Int))) (hr : Hid (opR M f i x 115 = r)) : Calls Tryd.prog 66 #[M.val, f.val, .int .u8 115, .int .i64 x, i.val] w fun e w' => e = .returned (.int .i64 r) ∧ Below w.heap.size w w' := by
  have hv : Hid (r = 36) := hr.out.symm.trans (by
    have h' : ¬ inR x (f.fn.sels.length : Int) := by rw [show (f.fn.sels.length : Int) = f.sels.length from by simp [MFn.fn]]; exact h
    simp only [opR, opndE, Int.reduceEq, false_and, false_or, or_false, true_or, or_true, if_false, if_true, if_neg h'])
  go_enter Tryd.func66, Tryd.ntmps66
  go_wp2_with (go_at_call 63; (with_reducible refine (within_f _ _ _ (by omega)).mono ?_); rintro e w' ⟨rfl, rfl⟩)
  go_ret
  exact ⟨ret_i hv.out.symm, boxed3 _ _ _ _⟩
theorem rop_f_t (h : 0 ≤ x ∧ x < (M.fns.length : Int)) (hr : Hid (opR M f i x 102 = r)) : Calls Tryd.prog 66 #[M.val, f.val, .int .u8 102, .int .i64 x, i.val] w fun e w' => e = .returned (.int .i64 r) ∧ Below w.heap.size w w' := by
  have hv : Hid (r = 0) := hr.out.symm.trans (by
    have h' : inR x (M.pr.fns.length : Int) := by rw [show (M.pr.fns.length : Int) = M.fns.length from by simp [MPr.pr]]; exact h
    simp only [opR, opndE, Int.reduceEq, false_and, false_or, or_false, true_or, or_true, if_false, if_true, if_pos h'])
  go_enter Tryd.func66, Tryd.ntmps66
  go_wp2_with (go_at_call 63; (with_reducible refine (within_t _ _ _ (by omega)).mono ?_); rintro e w' ⟨rfl, rfl⟩)
  go_ret
  exact ⟨ret_i hv.out.symm, boxed3 _ _ _ _⟩
theorem rop_f_f (h : ¬ (0 ≤ x ∧ x < (M.fns.length : Int))) (hr : Hid (opR M f i x 102 = r)) : Calls Tryd.prog 66 #[M.val, f.val, .int .u8 102, .int .i64 x, i.val] w fun e w' => e = .returned (.int .i64 r) ∧ Below w.heap.size w w' := by
  have hv : Hid (r = 36) := hr.out.symm.trans (by
    have h' : ¬ inR x (M.pr.fns.length : Int) := by rw [show (M.pr.fns.length : Int) = M.fns.length from by simp [MPr.pr]]; exact h
    simp only [opR, opndE, Int.reduceEq, false_and, false_or, or_false, true_or, or_true, if_false, if_true, if_neg h'])
  go_enter Tryd.func66, Tryd.ntmps66
  go_wp2_with (go_at_call 63; (with_reducible refine (within_f _ _ _ (by omega)).mono ?_); rintro e w' ⟨rfl, rfl⟩)
  go_ret
  exact ⟨ret_i hv.out.symm, boxed3 _ _ _ _⟩
theorem rop_t_t (h : 0 ≤ x ∧ x < (f.code.length : Int)) (hr : Hid (opR M f i x 116 = r)) : Calls Tryd.prog 66 #[M.val, f.val, .int .u8 116, .int .i64 x, i.val] w fun e w' => e = .returned (.int .i64 r) ∧ Below w.heap.size w w' := by
  have hv : Hid (r = 0) := hr.out.symm.trans (by
    have h' : inR x f.fn.code.length := h
    simp only [opR, opndE, Int.reduceEq, false_and, false_or, or_false, true_or, or_true, if_false, if_true, if_pos h'])
  go_enter Tryd.func66, Tryd.ntmps66
  go_wp2_with (go_at_call 63; (with_reducible refine (within_t _ _ _ (by omega)).mono ?_); rintro e w' ⟨rfl, rfl⟩)
  go_ret
  exact ⟨ret_i hv.out.symm, boxed3 _ _ _ _⟩
theorem rop_t_f (h : ¬ (0 ≤ x ∧ x < (f.code.length : Int))) (hr : Hid (opR M f i x 116 = r)) : Calls Tryd.prog 66 #[M.val, f.val, .int .u8 116, .int .i64 x, i.val] w fun e w' => e = .returned (.int .i64 r) ∧ Below w.heap.size w w' := by
  have hv : Hid (r = 38) := hr.out.symm.trans (by
    have h' : ¬ inR x f.fn.code.length := h
    simp only [opR, opndE, Int.reduceEq, false_and, false_or, or_false, true_or, or_true, if_false, if_true, if_neg h'])
  go_enter Tryd.func66, Tryd.ntmps66
  go_wp2_with (go_at_call 63; (with_reducible refine (within_f _ _ _ (by omega)).mono ?_); rintro e w' ⟨rfl, rfl⟩)
  go_ret
  exact ⟨ret_i hv.out.symm, boxed3 _ _ _ _⟩
theorem rop_o_none (hx : x = -1) (hr : Hid (opR M f i x 111 = r)) : Calls Tryd.prog 66 #[M.val, f.val, .int .u8 111, .int .i64 x, i.val] w fun e w' => e = .returned (.int .i64 r) ∧ Below w.heap.size w w' := by
  subst hx
  have hv : Hid (r = 0) := hr.out.symm.trans (by simp only [opR, opndE, and_self, if_true])
  go_enter Tryd.func66, Tryd.ntmps66
  go_wp2
  go_ret
  exact ⟨ret_i hv.out.symm, boxed3 _ _ _ _⟩
theorem rop_a_t (k : Nat) (y : Vr) (hk : x = (k : Int)) (hy : M.vars[k]? = some y) (hl : M.lies w) (hr : Hid (opR M f i x 97 = r)) : Calls Tryd.prog 66 #[M.val, f.val, .int .u8 97, .int .i64 x, i.val] w fun e w' => e = .returned (.int .i64 r) ∧ Below w.heap.size w w' := by
  have hlt : k < M.vars.length := (List.getElem?_eq_some_iff.mp hy).1
  have h : 0 ≤ x ∧ x < (M.vars.length : Int) := by omega
  obtain ⟨b, o, hix, hbl, c0, c1⟩ := vr_ix hl.1 k y hy
  rw [← hk] at hix
  replace c0 := cell3 c0
  have ha : M.pr.atom x = y.atomic := by rw [hk]; simp [Pr.atom, MPr.pr, hy]
  have hE : opR M f i x 97 = if y.atomic = true then 0 else 37 := by
    have h' : inR x M.pr.vars.length := h
    simp only [opR, opndE, Int.reduceEq, false_and, false_or, or_false, true_or, or_true, if_false, if_true, if_pos h', ha]
  cases hat : y.atomic with
  | true =>
    have hv : Hid (r = 0) := hr.out.symm.trans (by rw [hE, if_pos hat])
    clear ha hE hl hy hk c1 hr
    rw [hat] at c0
    go_enter Tryd.func66, Tryd.ntmps66
    go_wp2_with (go_at_call 63; (with_reducible refine (within_t _ _ _ (by omega)).mono ?_); rintro e w' ⟨rfl, rfl⟩)
    go_ret
    exact ⟨ret_i hv.out.symm, boxed3 _ _ _ _⟩
  | false =>
    have hv : Hid (r = 37) := hr.out.symm.trans (by rw [hE, if_neg (by simp [hat])])
    clear ha hE hl hy hk c1 hr
    rw [hat] at c0
    go_enter Tryd.func66, Tryd.ntmps66
    go_wp2_with (go_at_call 63; (with_reducible refine (within_t _ _ _ (by omega)).mono ?_); rintro e w' ⟨rfl, rfl⟩)
    go_ret
    exact ⟨ret_i hv.out.symm, boxed3 _ _ _ _⟩
theorem rop_a_f (h : ¬ (0 ≤ x ∧ x < (M.vars.length : Int))) (hr : Hid (opR M f i x 97 = r)) : Calls Tryd.prog 66 #[M.val, f.val, .int .u8 97, .int .i64 x, i.val] w fun e w' => e = .returned (.int .i64 r) ∧ Below w.heap.size w w' := by
  have hv : Hid (r = 36) := hr.out.symm.trans (by
    have h' : ¬ inR x M.pr.vars.length := h
    simp only [opR, opndE, Int.reduceEq, false_and, false_or, or_false, true_or, or_true, if_false, if_true, if_neg h'])
  go_enter Tryd.func66, Tryd.ntmps66
  go_wp2_with (go_at_call 63; (with_reducible refine (within_f _ _ _ (by omega)).mono ?_); rintro e w' ⟨rfl, rfl⟩)
  go_ret
  exact ⟨ret_i hv.out.symm, boxed3 _ _ _ _⟩
theorem rop_else (h1 : ¬ l = 111) (h2 : ¬ l = 114) (h3 : ¬ l = 119) (h4 : ¬ l = 112) (h5 : ¬ l = 97) (h6 : ¬ l = 118) (h7 : ¬ l = 108) (h8 : ¬ l = 99) (h9 : ¬ l = 115) (h10 : ¬ l = 102) (h11 : ¬ l = 116) (hr : Hid (opR M f i x l = r)) : Calls Tryd.prog 66 #[M.val, f.val, .int .u8 l, .int .i64 x, i.val] w fun e w' => e = .returned (.int .i64 r) ∧ Below w.heap.size w w' := by
  have hv : Hid (r = 0) := hr.out.symm.trans (by simp only [opR, opndE, h1, h2, h3, h4, h5, h6, h7, h8, h9, h10, h11, false_and, or_self, if_false])
  go_enter Tryd.func66, Tryd.ntmps66
  go_wp2
  go_ret
  exact ⟨ret_i hv.out.symm, boxed3 _ _ _ _⟩
theorem rop_p (k : Nat) (y : MFn) (hk : i.b = (k : Int)) (hy : M.fns[k]? = some y) (hl : M.lies w) (hx : I64 x) (h0 : 0 ≤ f.regs) (h8 : f.regs ≤ 8) (hr : Hid (opR M f i x 112 = r)) : Calls Tryd.prog 66 #[M.val, f.val, .int .u8 112, .int .i64 x, i.val] w fun e w' => e = .returned (.int .i64 r) ∧ Below w.heap.size w w' := by
  have hlt : k < M.fns.length := (List.getElem?_eq_some_iff.mp hy).1
  have hp : M.pr.par i.b = y.params := by rw [hk]; simp [Pr.par, MPr.pr, MFn.fn, hy]
  obtain ⟨b, o, hix, hbl, c0, c1, c2, c3⟩ := fn_ix hl.2.2.1 k y hy
  rw [← hk] at hix
  replace c0 := cell3 c0
  obtain ⟨y1, y2⟩ : I64 y.params := (hl.2.2.2.2.2.2 y (List.mem_of_getElem? hy)).2.2.2.2.1
  have hv : Hid (r = if roomR y.params x f.regs then 0 else 35) := hr.out.symm.trans (by
    simp only [opR, opndE, Int.reduceEq, false_and, false_or, or_false, true_or, or_true, if_false, if_true, hp])
  clear hl hy hp hr c1 c2 c3
  have hbI : 0 ≤ i.b ∧ i.b < (M.fns.length : Int) := by omega
  clear hk hlt
  obtain ⟨x1, x2⟩ := hx
  generalize y.params = k at *
  by_cases hz : k = 0
  · subst hz
    by_cases hx0 : x = 0
    · have hv2 : Hid (r = 0) := hv.out.trans (if_pos (by rintro (q | q) <;> omega))
      go_enter Tryd.func66, Tryd.ntmps66
      go_wp2
      go_ret
      exact ⟨ret_i hv2.out.symm, boxed3 _ _ _ _⟩
    · have hv2 : Hid (r = 35) := hv.out.trans (if_neg (fun q => q (.inl ⟨rfl, hx0⟩)))
      go_enter Tryd.func66, Tryd.ntmps66
      go_wp2
      go_ret
      exact ⟨ret_i hv2.out.symm, boxed3 _ _ _ _⟩
  · by_cases hp : 0 < k
    · by_cases hx0 : x < 0
      · have hv2 : Hid (r = 35) := hv.out.trans (if_neg (fun q => q (.inr ⟨hp, .inl hx0⟩)))
        go_enter Tryd.func66, Tryd.ntmps66
        go_wp2
        go_ret
        exact ⟨ret_i hv2.out.symm, boxed3 _ _ _ _⟩
      · by_cases hx1 : f.regs - k < x
        · have hv2 : Hid (r = 35) := hv.out.trans (if_neg (fun q => q (.inr ⟨hp, .inr hx1⟩)))
          go_enter Tryd.func66, Tryd.ntmps66
          go_wp2
          go_ret
          exact ⟨ret_i hv2.out.symm, boxed3 _ _ _ _⟩
        · have hv2 : Hid (r = 0) := hv.out.trans (if_pos (by rintro (q | q) <;> omega))
          go_enter Tryd.func66, Tryd.ntmps66
          go_wp2
          go_ret
          exact ⟨ret_i hv2.out.symm, boxed3 _ _ _ _⟩
    · have hv2 : Hid (r = 0) := hv.out.trans (if_pos (by rintro (q | q) <;> omega))
      go_enter Tryd.func66, Tryd.ntmps66
      go_wp2
      go_ret
      exact ⟨ret_i hv2.out.symm, boxed3 _ _ _ _⟩
/-- Every operand, whatever its letter. -/
theorem roperand_any (hl : M.lies w) (hx64 : I64 x) (h0 : 0 ≤ f.regs) (h8 : f.regs ≤ 8) (hp : l = 112 → 0 ≤ i.b ∧ i.b < (M.fns.length : Int)) (hr : Hid (opR M f i x l = r)) :
    Calls Tryd.prog 66 #[M.val, f.val, .int .u8 l, .int .i64 x, i.val] w fun e w' => e = .returned (.int .i64 r) ∧ Below w.heap.size w w' := by
  by_cases l1 : l = 111
  · subst l1
    by_cases hx : x = -1
    · exact rop_o_none M f i x w r hx hr
    by_cases h : 0 ≤ x ∧ x < f.regs
    · exact rop_o_t M f i x w r hx h hr
    · exact rop_o_f M f i x w r hx h hr
  by_cases l2 : l = 114
  · subst l2
    by_cases h : 0 ≤ x ∧ x < f.regs
    · exact rop_r_t M f i x w r h hr
    · exact rop_r_f M f i x w r h hr
  by_cases l3 : l = 119
  · subst l3
    by_cases h : 0 ≤ x ∧ x < f.regs
    · exact rop_w_t M f i x w r h hr
    · exact rop_w_f M f i x w r h hr
  by_cases l4 : l = 112
  · subst l4
    have hb := hp rfl
    obtain ⟨y, hy, _⟩ := get_lt M.fns i.b.toNat (by omega)
    exact rop_p M f i x w r i.b.toNat y (by omega) hy hl hx64 h0 h8 hr
  by_cases l5 : l = 97
  · subst l5
    by_cases h : 0 ≤ x ∧ x < (M.vars.length : Int)
    · obtain ⟨y, hy, _⟩ := get_lt M.vars x.toNat (by omega)
      exact rop_a_t M f i x w r x.toNat y (by omega) hy hl hr
    · exact rop_a_f M f i x w r h hr
  by_cases l6 : l = 118
  · subst l6
    by_cases h : 0 ≤ x ∧ x < (M.vars.length : Int)
    · exact rop_v_t M f i x w r h hr
    · exact rop_v_f M f i x w r h hr
  by_cases l7 : l = 108
  · subst l7
    by_cases h : 0 ≤ x ∧ x < M.locks
    · exact rop_l_t M f i x w r h hr
    · exact rop_l_f M f i x w r h hr
  by_cases l8 : l = 99
  · subst l8
    by_cases h : 0 ≤ x ∧ x < (M.chans.length : Int)
    · exact rop_c_t M f i x w r h hr
    · exact rop_c_f M f i x w r h hr
  by_cases l9 : l = 115
  · subst l9
    by_cases h : 0 ≤ x ∧ x < (f.sels.length : Int)
    · exact rop_s_t M f i x w r h hr
    · exact rop_s_f M f i x w r h hr
  by_cases l10 : l = 102
  · subst l10
    by_cases h : 0 ≤ x ∧ x < (M.fns.length : Int)
    · exact rop_f_t M f i x w r h hr
    · exact rop_f_f M f i x w r h hr
  by_cases l11 : l = 116
  · subst l11
    by_cases h : 0 ≤ x ∧ x < (f.code.length : Int)
    · exact rop_t_t M f i x w r h hr
    · exact rop_t_f M f i x w r h hr
  exact rop_else M f i x w r l l1 l2 l3 l4 l5 l6 l7 l8 l9 l10 l11 hr
end
end Go.Proofs.YtlcljdldhajkiaaDoor.pg
/- The contract of the document's own look at an instruction. -/
namespace Go.Proofs.YtlcljdldhajkiaaDoor.pg
open Go.ChangeShapes Go.WideShapes Go.ChangeAt Go.RowKit
set_option linter.unusedVariables false
set_option linter.unusedSimpArgs false
set_option maxRecDepth 100000
attribute [local go_sem ↓] Go.wp_at_zero Go.wp_at_succ
theorem known_lv (op : Int) : (prog.loc op || prog.vis op) = true ↔ formOf op ≠ [] := by
  by_cases h : 0 ≤ op ∧ op < 66
  · obtain ⟨n, rfl⟩ : ∃ n : Nat, op = (n : Int) := ⟨op.toNat, by omega⟩
    have key : ∀ n : Fin 66, (prog.loc ((n.val : Nat) : Int) || prog.vis ((n.val : Nat) : Int)) = true ↔ formOf ((n.val : Nat) : Int) ≠ [] := by decide
    exact key ⟨n, by omega⟩
  · rw [formOf_big op h]
    constructor
    · intro q
      simp only [prog.loc, prog.vis, Bool.or_eq_true, decide_eq_true_eq] at q
      omega
    · intro q
      exact absurd rfl q
theorem opndE_irrel {r r' : Prop} [Decidable r] [Decidable r'] {P : Pr} {f : Fn} {l x : Int} (h : l ≠ 112) : opndE r P f l x = opndE r' P f l x := by
  unfold opndE
  simp only [h, if_false]
abbrev objX (i : Ins) : Obj := .cells #[.int .i64 i.a, .int .i64 i.b, .int .i64 i.c, .int .i64 i.n] 113
theorem boxX_new (w : World) (x : Ins) : BoxX (w.alloc (objX x)) w.heap.size x := by
  refine ⟨?_, ?_, ?_, ?_⟩ <;> exact World.cell?_alloc_at _ _ _ _ rfl
set_option maxHeartbeats 4000000 in
theorem rinstr_any (M : MPr) (f : MFn) (i : Ins) (w : World) (r : Int) (hl : M.lies w) (hw : i.wf) (h0 : 0 ≤ f.regs) (h8 : f.regs ≤ 8) (hr : Hid (insR M.pr f.fn i = r)) :
    Calls Tryd.prog 58 #[M.val, f.val, i.val] w fun e w' => e = .returned (.int .i64 r) ∧ Below w.heap.size w w' := by
  have hb1 := boxed w (objP M)
  have hb2 := boxed (w.alloc (objP M)) (objF f)
  have hb3 := boxed ((w.alloc (objP M)).alloc (objF f)) (objI i)
  have hb := boxed3 w (objP M) (objF f) (objI i)
  have hb4 := boxed (((w.alloc (objP M)).alloc (objF f)).alloc (objI i)) (objX i)
  have bP := (((boxP_new w M).later hb2).later hb3).later hb4
  have bF := ((boxF_new (w.alloc (objP M)) f).later hb3).later hb4
  have bI := (boxI_new ((w.alloc (objP M)).alloc (objF f)) i).later hb4
  have bX := boxX_new (((w.alloc (objP M)).alloc (objF f)).alloc (objI i)) i
  have hbW := bthen hb hb4
  have hL := hl.later hbW
  simp only [World.size_alloc] at bF bI bX
  clear hb1 hb2 hb3 hb4 hl
  have hop : I64 i.op := hw.1
  obtain ⟨o1, o2⟩ := hop
  obtain ⟨F, hFm⟩ : ∃ F, Hid (prog.frm i.op = F) := ⟨_, rfl⟩
  obtain ⟨bl, hbl⟩ : ∃ bl, Hid (prog.loc i.op = bl) := ⟨_, rfl⟩
  obtain ⟨bv, hbv⟩ : ∃ bv, Hid (prog.vis i.op = bv) := ⟨_, rfl⟩
  have cL : ∀ wx, Calls Tryd.prog 59 #[.int .i64 i.op] wx _ := fun wx => prog.reflocal_any i.op o1 o2 wx bl hbl.out
  have cV : ∀ wx, Calls Tryd.prog 64 #[.int .i64 i.op] wx _ := fun wx => prog.refvisible_any i.op o1 o2 wx bv hbv.out
  have cF : ∀ wx, Calls Tryd.prog 65 #[.int .i64 i.op] wx _ := fun wx => prog.refform_any i.op o1 o2 wx F hFm.out
  have hkn : Hid ((bl || bv) = true ↔ formOf i.op ≠ []) := by rw [← hbl.out, ← hbv.out]; exact known_lv i.op
  by_cases hk : (bl || bv) = true
  · have hne := hkn.out.mp hk
    rcases formOf_four i.op with hn | ⟨a0, a1, a2, a3, hf4, q0, q1, q2, q3⟩
    · exact absurd hn hne
    have hFF := hFm.out
    rw [frm_form, hf4] at hFF
    simp only [List.map] at hFF
    have L0 : Hid (lt i.op 0 = (a0 : Int)) := by show lt i.op 0 = _; unfold lt; rw [hf4]; rfl
    have L1 : Hid (lt i.op 1 = (a1 : Int)) := by show lt i.op 1 = _; unfold lt; rw [hf4]; rfl
    have L2 : Hid (lt i.op 2 = (a2 : Int)) := by show lt i.op 2 = _; unfold lt; rw [hf4]; rfl
    have L3 : Hid (lt i.op 3 = (a3 : Int)) := by show lt i.op 3 = _; unfold lt; rw [hf4]; rfl
    have B0 := byte_str a0 q0
    have B1 := byte_str a1 q1
    have B2 := byte_str a2 q2
    have B3 := byte_str a3 q3
    generalize UInt8.ofNat ((a0 : Int).toNat) = c0 at *
    generalize UInt8.ofNat ((a1 : Int).toNat) = c1 at *
    generalize UInt8.ofNat ((a2 : Int).toNat) = c2 at *
    generalize UInt8.ofNat ((a3 : Int).toNat) = c3 at *
    have C0 : ((⟨#[c0, c1, c2, c3]⟩ : ByteArray)[0]'(by show 0 < 4; decide)).toNat = a0 := by show c0.toNat = a0; omega
    have C1 : ((⟨#[c0, c1, c2, c3]⟩ : ByteArray)[1]'(by show 1 < 4; decide)).toNat = a1 := by show c1.toNat = a1; omega
    have C2 : ((⟨#[c0, c1, c2, c3]⟩ : ByteArray)[2]'(by show 2 < 4; decide)).toNat = a2 := by show c2.toNat = a2; omega
    have C3 : ((⟨#[c0, c1, c2, c3]⟩ : ByteArray)[3]'(by show 3 < 4; decide)).toNat = a3 := by show c3.toNat = a3; omega
    clear B0 B1 B2 B3 q0 q1 q2 q3
    have hne : Hid (formOf i.op ≠ []) := hne
    subst hFF
    clear hFm hf4 hkn hbl hbv
    go_enter Tryd.func58, Tryd.ntmps58
    cases bl
    all_goals
      first | (have hvt : bv = true := by simpa using hk) | skip
      first | subst hvt | skip
      clear hk
      go_wp2_with (first | (go_at_call 59; (with_reducible refine (cL _).mono ?_); rintro e w' ⟨rfl, rfl⟩) | (go_at_call 64; (with_reducible refine (cV _).mono ?_); rintro e w' ⟨rfl, rfl⟩) | (go_at_call 65; (with_reducible refine (cF _).mono ?_); rintro e w' ⟨rfl, rfl⟩))
      generalize (((w.alloc (objP M)).alloc (objF f)).alloc (objI i)).alloc (objX i) = wc at *
      have hbw : Below w.heap.size w wc := hbW
      have hbX0 : Hid (BoxX wc (w.heap.size + 1 + 1 + 1) i) := bX
      have hbP0 : Hid (BoxP wc w.heap.size M) := bP
      have hbF0 : Hid (BoxF wc (w.heap.size + 1) f) := bF
      have hbI0 : Hid (BoxI wc (w.heap.size + 1 + 1) i) := bI
      have hLc : Hid (M.lies wc) := hL
      obtain ⟨x0, x1, x2, x3⟩ := bX
      clear bP bF bI hL hbW hb cL cV cF
      go_loop [9] (fun u => ∃ k : Nat, k ≤ 4 ∧ u = .int .i64 k ∧ ∀ j, j < k → ¬ (lt i.op j = 45 ∧ i.x j ≠ 0)) (fun u => 4 - (intOf u).toNat)
      case atStart => exact ⟨0, Nat.zero_le _, rfl, fun j hj => by omega⟩
      case round =>
        obtain ⟨k, hk, rfl, hall⟩ := hrel
        by_cases hk4 : k = 4
        · subst hk4
          have hun : Hid (¬ unused i) := fun q => by obtain ⟨j, hj, q⟩ := (unused_iff i).mp q; exact hall j hj q
          clear hall x0 x1 x2 x3
          go_wp2
          go_loopw [10] (fun u wr => ∃ k : Nat, k ≤ 4 ∧ u = .int .i64 k ∧ (∀ j, j < k → opndE (roomR (M.pr.par i.b) i.c f.fn.regs) M.pr f.fn (lt i.op j) (i.x j) = 0) ∧ Below wc.heap.size wc wr) (fun u _ => 4 - (intOf u).toNat)
          case atStart => exact ⟨0, Nat.zero_le _, rfl, (fun j hj => by omega), Below.refl _ _⟩
          case round =>
            obtain ⟨k, hk, rfl, hall, hbr⟩ := hrel
            have hbX : Hid (BoxX wr (w.heap.size + 1 + 1 + 1) i) := hbX0.out.later hbr
            have hbP : Hid (BoxP wr w.heap.size M) := hbP0.out.later hbr
            have hbF : Hid (BoxF wr (w.heap.size + 1) f) := hbF0.out.later hbr
            have hbI' : Hid (BoxI wr (w.heap.size + 1 + 1) i) := hbI0.out.later hbr
            have hLr : M.lies wr := hLc.out.later hbr
            by_cases hk4 : k = 4
            · subst hk4
              have hv : Hid (r = 0) := hr.out.symm.trans (insE_ok hne.out hun.out hall)
              go_wp2
              go_ret
              exact ⟨ret_i hv.out.symm, bthen hbw hbr⟩
            have hk0 : k = 0 ∨ k = 1 ∨ k = 2 ∨ k = 3 := by omega
            rcases hk0 with hk0 | hk1 | hk2 | hk3
            · subst hk0
              obtain ⟨e, he⟩ : ∃ e, Hid (opR M f i i.a (a0 : Int) = e) := ⟨_, rfl⟩
              have he' : Hid (opndE (roomR (M.pr.par i.b) i.c f.fn.regs) M.pr f.fn (lt i.op 0) (i.x 0) = e) := by
                show opndE (roomR (M.pr.par i.b) i.c f.regs) M.pr f.fn (lt i.op 0) i.a = e
                rw [opndE_irrel (r' := roomR (M.pr.par i.b) i.a f.regs) (fun q => by have := (p_where i.op 0 q).1; omega), L0.out]; exact he.out
              have hp : (a0 : Int) = 112 → 0 ≤ i.b ∧ i.b < (M.fns.length : Int) := fun h => by have := p_room 0 hall (L0.out.trans h); simpa [MPr.pr] using this
              have hcall : ∀ wx, Below wr.heap.size wr wx → Calls Tryd.prog 66 #[M.val, f.val, .int .u8 (a0 : Int), .int .i64 i.a, i.val] wx _ := fun wx hx => roperand_any M f i i.a wx e (a0 : Int) (hLr.later hx) hw.2.1 h0 h8 hp he
              clear he hp hLr
              obtain ⟨p0, p1, p2, p3, f0, f1, f2, f3, i0, i1, i2, i3, i4, x0, x1, x2, x3, _⟩ := keepA hbP.out hbF.out hbI'.out hbX.out (Below.refl _ wr)
              go_wp2_with fail
              go_region_held3 (fun w' => w'.cell? ⟨w.heap.size, 0, none⟩ = some (.slice M.va M.vars.length M.vcap) ∧ w'.cell? ⟨w.heap.size, 1, none⟩ = some (.int .i64 M.locks) ∧ w'.cell? ⟨w.heap.size, 2, none⟩ = some (.slice M.cha M.chans.length M.chcap) ∧ w'.cell? ⟨w.heap.size, 3, none⟩ = some (.slice M.fa M.fns.length M.fcap) ∧ w'.cell? ⟨w.heap.size + 1, 0, none⟩ = some (.int .i64 f.params) ∧ w'.cell? ⟨w.heap.size + 1, 1, none⟩ = some (.int .i64 f.regs) ∧ w'.cell? ⟨w.heap.size + 1, 2, none⟩ = some (.slice f.ca f.code.length f.ccap) ∧ w'.cell? ⟨w.heap.size + 1, 3, none⟩ = some (.slice f.sa f.sels.length f.scap) ∧ w'.cell? ⟨w.heap.size + 1 + 1, 0, none⟩ = some (.int .i64 i.op) ∧ w'.cell? ⟨w.heap.size + 1 + 1, 1, none⟩ = some (.int .i64 i.a) ∧ w'.cell? ⟨w.heap.size + 1 + 1, 2, none⟩ = some (.int .i64 i.b) ∧ w'.cell? ⟨w.heap.size + 1 + 1, 3, none⟩ = some (.int .i64 i.c) ∧ w'.cell? ⟨w.heap.size + 1 + 1, 4, none⟩ = some (.int .i64 i.n) ∧ w'.cell? ⟨w.heap.size + 1 + 1 + 1, 0, none⟩ = some (.int .i64 i.a) ∧ w'.cell? ⟨w.heap.size + 1 + 1 + 1, 1, none⟩ = some (.int .i64 i.b) ∧ w'.cell? ⟨w.heap.size + 1 + 1 + 1, 2, none⟩ = some (.int .i64 i.c) ∧ w'.cell? ⟨w.heap.size + 1 + 1 + 1, 3, none⟩ = some (.int .i64 i.n) ∧ Below wr.heap.size wr w') ((refine keepA hbP.out hbF.out hbI'.out hbX.out ?_; repeat (first | exact keepL (by assumption) | assumption | exact Below.refl _ _ | refine Below.drew ?_)))
                (first | (go_at_call 66; refine (hcall _ (by repeat (first | exact keepL (by assumption) | exact Below.refl _ _ | refine Below.drew ?_))).mono ?_; rintro e w' ⟨rfl, hb2⟩; have hBW : Below wr.heap.size wr w' := bthen (by repeat (first | exact keepL (by assumption) | exact Below.refl _ _ | refine Below.drew ?_)) hb2))
              by_cases h00 : e = 0
              · subst h00
                go_wp2
                go_roundw
                case rel => exact ⟨1, by omega, rfl, (fun j hj => by
                  by_cases hj' : j = 0
                  · subst hj'; exact he'.out
                  · exact hall j (by omega)), bthen hbr hBW⟩
                case measure => simp [intOf]
              · have hv : Hid (r = e) := hr.out.symm.trans ((insE_hit hne.out hun.out 0 (by omega) hall (fun q => h00 (he'.out.symm.trans q))).trans he'.out)
                go_wp2
                go_ret
                exact ⟨ret_i hv.out.symm, bthen (bthen hbw hbr) hBW⟩
            · subst hk1
              obtain ⟨e, he⟩ : ∃ e, Hid (opR M f i i.b (a1 : Int) = e) := ⟨_, rfl⟩
              have he' : Hid (opndE (roomR (M.pr.par i.b) i.c f.fn.regs) M.pr f.fn (lt i.op 1) (i.x 1) = e) := by
                show opndE (roomR (M.pr.par i.b) i.c f.regs) M.pr f.fn (lt i.op 1) i.b = e
                rw [opndE_irrel (r' := roomR (M.pr.par i.b) i.b f.regs) (fun q => by have := (p_where i.op 1 q).1; omega), L1.out]; exact he.out
              have hp : (a1 : Int) = 112 → 0 ≤ i.b ∧ i.b < (M.fns.length : Int) := fun h => by have := p_room 1 hall (L1.out.trans h); simpa [MPr.pr] using this
              have hcall : ∀ wx, Below wr.heap.size wr wx → Calls Tryd.prog 66 #[M.val, f.val, .int .u8 (a1 : Int), .int .i64 i.b, i.val] wx _ := fun wx hx => roperand_any M f i i.b wx e (a1 : Int) (hLr.later hx) hw.2.2.1 h0 h8 hp he
              clear he hp hLr
              obtain ⟨p0, p1, p2, p3, f0, f1, f2, f3, i0, i1, i2, i3, i4, x0, x1, x2, x3, _⟩ := keepA hbP.out hbF.out hbI'.out hbX.out (Below.refl _ wr)
              go_wp2_with fail
              go_region_held3 (fun w' => w'.cell? ⟨w.heap.size, 0, none⟩ = some (.slice M.va M.vars.length M.vcap) ∧ w'.cell? ⟨w.heap.size, 1, none⟩ = some (.int .i64 M.locks) ∧ w'.cell? ⟨w.heap.size, 2, none⟩ = some (.slice M.cha M.chans.length M.chcap) ∧ w'.cell? ⟨w.heap.size, 3, none⟩ = some (.slice M.fa M.fns.length M.fcap) ∧ w'.cell? ⟨w.heap.size + 1, 0, none⟩ = some (.int .i64 f.params) ∧ w'.cell? ⟨w.heap.size + 1, 1, none⟩ = some (.int .i64 f.regs) ∧ w'.cell? ⟨w.heap.size + 1, 2, none⟩ = some (.slice f.ca f.code.length f.ccap) ∧ w'.cell? ⟨w.heap.size + 1, 3, none⟩ = some (.slice f.sa f.sels.length f.scap) ∧ w'.cell? ⟨w.heap.size + 1 + 1, 0, none⟩ = some (.int .i64 i.op) ∧ w'.cell? ⟨w.heap.size + 1 + 1, 1, none⟩ = some (.int .i64 i.a) ∧ w'.cell? ⟨w.heap.size + 1 + 1, 2, none⟩ = some (.int .i64 i.b) ∧ w'.cell? ⟨w.heap.size + 1 + 1, 3, none⟩ = some (.int .i64 i.c) ∧ w'.cell? ⟨w.heap.size + 1 + 1, 4, none⟩ = some (.int .i64 i.n) ∧ w'.cell? ⟨w.heap.size + 1 + 1 + 1, 0, none⟩ = some (.int .i64 i.a) ∧ w'.cell? ⟨w.heap.size + 1 + 1 + 1, 1, none⟩ = some (.int .i64 i.b) ∧ w'.cell? ⟨w.heap.size + 1 + 1 + 1, 2, none⟩ = some (.int .i64 i.c) ∧ w'.cell? ⟨w.heap.size + 1 + 1 + 1, 3, none⟩ = some (.int .i64 i.n) ∧ Below wr.heap.size wr w') ((refine keepA hbP.out hbF.out hbI'.out hbX.out ?_; repeat (first | exact keepL (by assumption) | assumption | exact Below.refl _ _ | refine Below.drew ?_)))
                (first | (go_at_call 66; refine (hcall _ (by repeat (first | exact keepL (by assumption) | exact Below.refl _ _ | refine Below.drew ?_))).mono ?_; rintro e w' ⟨rfl, hb2⟩; have hBW : Below wr.heap.size wr w' := bthen (by repeat (first | exact keepL (by assumption) | exact Below.refl _ _ | refine Below.drew ?_)) hb2))
              by_cases h00 : e = 0
              · subst h00
                go_wp2
                go_roundw
                case rel => exact ⟨2, by omega, rfl, (fun j hj => by
                  by_cases hj' : j = 1
                  · subst hj'; exact he'.out
                  · exact hall j (by omega)), bthen hbr hBW⟩
                case measure => simp [intOf]
              · have hv : Hid (r = e) := hr.out.symm.trans ((insE_hit hne.out hun.out 1 (by omega) hall (fun q => h00 (he'.out.symm.trans q))).trans he'.out)
                go_wp2
                go_ret
                exact ⟨ret_i hv.out.symm, bthen (bthen hbw hbr) hBW⟩
            · subst hk2
              obtain ⟨e, he⟩ : ∃ e, Hid (opR M f i i.c (a2 : Int) = e) := ⟨_, rfl⟩
              have he' : Hid (opndE (roomR (M.pr.par i.b) i.c f.fn.regs) M.pr f.fn (lt i.op 2) (i.x 2) = e) := by
                show opndE (roomR (M.pr.par i.b) i.c f.regs) M.pr f.fn (lt i.op 2) i.c = e
                rw [L2.out]; exact he.out
              have hp : (a2 : Int) = 112 → 0 ≤ i.b ∧ i.b < (M.fns.length : Int) := fun h => by have := p_room 2 hall (L2.out.trans h); simpa [MPr.pr] using this
              have hcall : ∀ wx, Below wr.heap.size wr wx → Calls Tryd.prog 66 #[M.val, f.val, .int .u8 (a2 : Int), .int .i64 i.c, i.val] wx _ := fun wx hx => roperand_any M f i i.c wx e (a2 : Int) (hLr.later hx) hw.2.2.2.1 h0 h8 hp he
              clear he hp hLr
              obtain ⟨p0, p1, p2, p3, f0, f1, f2, f3, i0, i1, i2, i3, i4, x0, x1, x2, x3, _⟩ := keepA hbP.out hbF.out hbI'.out hbX.out (Below.refl _ wr)
              go_wp2_with fail
              go_region_held3 (fun w' => w'.cell? ⟨w.heap.size, 0, none⟩ = some (.slice M.va M.vars.length M.vcap) ∧ w'.cell? ⟨w.heap.size, 1, none⟩ = some (.int .i64 M.locks) ∧ w'.cell? ⟨w.heap.size, 2, none⟩ = some (.slice M.cha M.chans.length M.chcap) ∧ w'.cell? ⟨w.heap.size, 3, none⟩ = some (.slice M.fa M.fns.length M.fcap) ∧ w'.cell? ⟨w.heap.size + 1, 0, none⟩ = some (.int .i64 f.params) ∧ w'.cell? ⟨w.heap.size + 1, 1, none⟩ = some (.int .i64 f.regs) ∧ w'.cell? ⟨w.heap.size + 1, 2, none⟩ = some (.slice f.ca f.code.length f.ccap) ∧ w'.cell? ⟨w.heap.size + 1, 3, none⟩ = some (.slice f.sa f.sels.length f.scap) ∧ w'.cell? ⟨w.heap.size + 1 + 1, 0, none⟩ = some (.int .i64 i.op) ∧ w'.cell? ⟨w.heap.size + 1 + 1, 1, none⟩ = some (.int .i64 i.a) ∧ w'.cell? ⟨w.heap.size + 1 + 1, 2, none⟩ = some (.int .i64 i.b) ∧ w'.cell? ⟨w.heap.size + 1 + 1, 3, none⟩ = some (.int .i64 i.c) ∧ w'.cell? ⟨w.heap.size + 1 + 1, 4, none⟩ = some (.int .i64 i.n) ∧ w'.cell? ⟨w.heap.size + 1 + 1 + 1, 0, none⟩ = some (.int .i64 i.a) ∧ w'.cell? ⟨w.heap.size + 1 + 1 + 1, 1, none⟩ = some (.int .i64 i.b) ∧ w'.cell? ⟨w.heap.size + 1 + 1 + 1, 2, none⟩ = some (.int .i64 i.c) ∧ w'.cell? ⟨w.heap.size + 1 + 1 + 1, 3, none⟩ = some (.int .i64 i.n) ∧ Below wr.heap.size wr w') ((refine keepA hbP.out hbF.out hbI'.out hbX.out ?_; repeat (first | exact keepL (by assumption) | assumption | exact Below.refl _ _ | refine Below.drew ?_)))
                (first | (go_at_call 66; refine (hcall _ (by repeat (first | exact keepL (by assumption) | exact Below.refl _ _ | refine Below.drew ?_))).mono ?_; rintro e w' ⟨rfl, hb2⟩; have hBW : Below wr.heap.size wr w' := bthen (by repeat (first | exact keepL (by assumption) | exact Below.refl _ _ | refine Below.drew ?_)) hb2))
              by_cases h00 : e = 0
              · subst h00
                go_wp2
                go_roundw
                case rel => exact ⟨3, by omega, rfl, (fun j hj => by
                  by_cases hj' : j = 2
                  · subst hj'; exact he'.out
                  · exact hall j (by omega)), bthen hbr hBW⟩
                case measure => simp [intOf]
              · have hv : Hid (r = e) := hr.out.symm.trans ((insE_hit hne.out hun.out 2 (by omega) hall (fun q => h00 (he'.out.symm.trans q))).trans he'.out)
                go_wp2
                go_ret
                exact ⟨ret_i hv.out.symm, bthen (bthen hbw hbr) hBW⟩
            · subst hk3
              obtain ⟨e, he⟩ : ∃ e, Hid (opR M f i i.n (a3 : Int) = e) := ⟨_, rfl⟩
              have he' : Hid (opndE (roomR (M.pr.par i.b) i.c f.fn.regs) M.pr f.fn (lt i.op 3) (i.x 3) = e) := by
                show opndE (roomR (M.pr.par i.b) i.c f.regs) M.pr f.fn (lt i.op 3) i.n = e
                rw [opndE_irrel (r' := roomR (M.pr.par i.b) i.n f.regs) (fun q => by have := (p_where i.op 3 q).1; omega), L3.out]; exact he.out
              have hp : (a3 : Int) = 112 → 0 ≤ i.b ∧ i.b < (M.fns.length : Int) := fun h => by have := p_room 3 hall (L3.out.trans h); simpa [MPr.pr] using this
              have hcall : ∀ wx, Below wr.heap.size wr wx → Calls Tryd.prog 66 #[M.val, f.val, .int .u8 (a3 : Int), .int .i64 i.n, i.val] wx _ := fun wx hx => roperand_any M f i i.n wx e (a3 : Int) (hLr.later hx) hw.2.2.2.2 h0 h8 hp he
              clear he hp hLr
              obtain ⟨p0, p1, p2, p3, f0, f1, f2, f3, i0, i1, i2, i3, i4, x0, x1, x2, x3, _⟩ := keepA hbP.out hbF.out hbI'.out hbX.out (Below.refl _ wr)
              go_wp2_with fail
              go_region_held3 (fun w' => w'.cell? ⟨w.heap.size, 0, none⟩ = some (.slice M.va M.vars.length M.vcap) ∧ w'.cell? ⟨w.heap.size, 1, none⟩ = some (.int .i64 M.locks) ∧ w'.cell? ⟨w.heap.size, 2, none⟩ = some (.slice M.cha M.chans.length M.chcap) ∧ w'.cell? ⟨w.heap.size, 3, none⟩ = some (.slice M.fa M.fns.length M.fcap) ∧ w'.cell? ⟨w.heap.size + 1, 0, none⟩ = some (.int .i64 f.params) ∧ w'.cell? ⟨w.heap.size + 1, 1, none⟩ = some (.int .i64 f.regs) ∧ w'.cell? ⟨w.heap.size + 1, 2, none⟩ = some (.slice f.ca f.code.length f.ccap) ∧ w'.cell? ⟨w.heap.size + 1, 3, none⟩ = some (.slice f.sa f.sels.length f.scap) ∧ w'.cell? ⟨w.heap.size + 1 + 1, 0, none⟩ = some (.int .i64 i.op) ∧ w'.cell? ⟨w.heap.size + 1 + 1, 1, none⟩ = some (.int .i64 i.a) ∧ w'.cell? ⟨w.heap.size + 1 + 1, 2, none⟩ = some (.int .i64 i.b) ∧ w'.cell? ⟨w.heap.size + 1 + 1, 3, none⟩ = some (.int .i64 i.c) ∧ w'.cell? ⟨w.heap.size + 1 + 1, 4, none⟩ = some (.int .i64 i.n) ∧ w'.cell? ⟨w.heap.size + 1 + 1 + 1, 0, none⟩ = some (.int .i64 i.a) ∧ w'.cell? ⟨w.heap.size + 1 + 1 + 1, 1, none⟩ = some (.int .i64 i.b) ∧ w'.cell? ⟨w.heap.size + 1 + 1 + 1, 2, none⟩ = some (.int .i64 i.c) ∧ w'.cell? ⟨w.heap.size + 1 + 1 + 1, 3, none⟩ = some (.int .i64 i.n) ∧ Below wr.heap.size wr w') ((refine keepA hbP.out hbF.out hbI'.out hbX.out ?_; repeat (first | exact keepL (by assumption) | assumption | exact Below.refl _ _ | refine Below.drew ?_)))
                (first | (go_at_call 66; refine (hcall _ (by repeat (first | exact keepL (by assumption) | exact Below.refl _ _ | refine Below.drew ?_))).mono ?_; rintro e w' ⟨rfl, hb2⟩; have hBW : Below wr.heap.size wr w' := bthen (by repeat (first | exact keepL (by assumption) | exact Below.refl _ _ | refine Below.drew ?_)) hb2))
              by_cases h00 : e = 0
              · subst h00
                go_wp2
                go_roundw
                case rel => exact ⟨4, by omega, rfl, (fun j hj => by
                  by_cases hj' : j = 3
                  · subst hj'; exact he'.out
                  · exact hall j (by omega)), bthen hbr hBW⟩
                case measure => simp [intOf]
              · have hv : Hid (r = e) := hr.out.symm.trans ((insE_hit hne.out hun.out 3 (by omega) hall (fun q => h00 (he'.out.symm.trans q))).trans he'.out)
                go_wp2
                go_ret
                exact ⟨ret_i hv.out.symm, bthen (bthen hbw hbr) hBW⟩
        have hk0 : k = 0 ∨ k = 1 ∨ k = 2 ∨ k = 3 := by omega
        rcases hk0 with hk0 | hk1 | hk2 | hk3
        · subst hk0
          by_cases h45 : (a0 : Int) = 45
          · by_cases hx0 : i.a = 0
            · go_wp2
              go_round
              case rel => exact ⟨1, by omega, rfl, fun j hj q => by
                by_cases hj' : j = 0
                · subst hj'; exact q.2 hx0
                · exact hall j (by omega) q⟩
              case measure => simp [intOf]
            · have hv : Hid (r = 34) := hr.out.symm.trans (insE_unused hne.out ((unused_iff i).mpr ⟨0, by omega, L0.out.trans h45, hx0⟩))
              go_wp2
              go_ret
              exact ⟨ret_i hv.out.symm, hbw⟩
          · go_wp2
            go_round
            case rel => exact ⟨1, by omega, rfl, fun j hj q => by
              by_cases hj' : j = 0
              · subst hj'; exact h45 (L0.out.symm.trans q.1)
              · exact hall j (by omega) q⟩
            case measure => simp [intOf]
        · subst hk1
          by_cases h45 : (a1 : Int) = 45
          · by_cases hx0 : i.b = 0
            · go_wp2
              go_round
              case rel => exact ⟨2, by omega, rfl, fun j hj q => by
                by_cases hj' : j = 1
                · subst hj'; exact q.2 hx0
                · exact hall j (by omega) q⟩
              case measure => simp [intOf]
            · have hv : Hid (r = 34) := hr.out.symm.trans (insE_unused hne.out ((unused_iff i).mpr ⟨1, by omega, L1.out.trans h45, hx0⟩))
              go_wp2
              go_ret
              exact ⟨ret_i hv.out.symm, hbw⟩
          · go_wp2
            go_round
            case rel => exact ⟨2, by omega, rfl, fun j hj q => by
              by_cases hj' : j = 1
              · subst hj'; exact h45 (L1.out.symm.trans q.1)
              · exact hall j (by omega) q⟩
            case measure => simp [intOf]
        · subst hk2
          by_cases h45 : (a2 : Int) = 45
          · by_cases hx0 : i.c = 0
            · go_wp2
              go_round
              case rel => exact ⟨3, by omega, rfl, fun j hj q => by
                by_cases hj' : j = 2
                · subst hj'; exact q.2 hx0
                · exact hall j (by omega) q⟩
              case measure => simp [intOf]
            · have hv : Hid (r = 34) := hr.out.symm.trans (insE_unused hne.out ((unused_iff i).mpr ⟨2, by omega, L2.out.trans h45, hx0⟩))
              go_wp2
              go_ret
              exact ⟨ret_i hv.out.symm, hbw⟩
          · go_wp2
            go_round
            case rel => exact ⟨3, by omega, rfl, fun j hj q => by
              by_cases hj' : j = 2
              · subst hj'; exact h45 (L2.out.symm.trans q.1)
              · exact hall j (by omega) q⟩
            case measure => simp [intOf]
        · subst hk3
          by_cases h45 : (a3 : Int) = 45
          · by_cases hx0 : i.n = 0
            · go_wp2
              go_round
              case rel => exact ⟨4, by omega, rfl, fun j hj q => by
                by_cases hj' : j = 3
                · subst hj'; exact q.2 hx0
                · exact hall j (by omega) q⟩
              case measure => simp [intOf]
            · have hv : Hid (r = 34) := hr.out.symm.trans (insE_unused hne.out ((unused_iff i).mpr ⟨3, by omega, L3.out.trans h45, hx0⟩))
              go_wp2
              go_ret
              exact ⟨ret_i hv.out.symm, hbw⟩
          · go_wp2
            go_round
            case rel => exact ⟨4, by omega, rfl, fun j hj q => by
              by_cases hj' : j = 3
              · subst hj'; exact h45 (L3.out.symm.trans q.1)
              · exact hall j (by omega) q⟩
            case measure => simp [intOf]
  · have hn : formOf i.op = [] := Classical.byContradiction fun q => hk (hkn.out.mpr q)
    have hv : Hid (r = 33) := hr.out.symm.trans (insE_op hn)
    have h1 : bl = false := by cases bl <;> simp_all
    have h2 : bv = false := by cases bv <;> simp_all
    subst h1
    subst h2
    clear hk hkn hn cF hbl hbv hFm bP bF bI bX hL hbW hw
    go_enter Tryd.func58, Tryd.ntmps58
    go_wp2_with (first | (go_at_call 59; (with_reducible refine (cL _).mono ?_); rintro e w' ⟨rfl, rfl⟩) | (go_at_call 64; (with_reducible refine (cV _).mono ?_); rintro e w' ⟨rfl, rfl⟩))
    go_ret
    exact ⟨ret_i hv.out.symm, hb⟩
end Go.Proofs.YtlcljdldhajkiaaDoor.pg
/- The contracts of the document's own looks at selects and sizes of a function. -/
namespace Go.Proofs.YtlcljdldhajkiaaDoor.pg
open Go.ChangeShapes Go.WideShapes Go.ChangeAt Go.RowKit
set_option linter.unusedVariables false
set_option linter.unusedSimpArgs false
set_option maxRecDepth 100000
set_option maxHeartbeats 4000000 in
theorem rselects_any (M : MPr) (f : MFn) (w : World) (h : M.lies w) (hf : f.lies w) (r : Int) (hr : Hid (firstE (selE M.pr f.fn) f.fn.sels = r)) :
    Calls Tryd.prog 57 #[M.val, f.val] w fun e w' => e = .returned (.int .i64 r) ∧ Below w.heap.size w w' := by
  have hb2 := boxed (w.alloc (objP M)) (objF f)
  have hb := boxed2 w (objP M) (objF f)
  have bP := (boxP_new w M).later hb2
  have bF := boxF_new (w.alloc (objP M)) f
  have hL := h.later hb
  have hFL := hf.later hb
  simp only [World.size_alloc] at bF
  have hln := rows_len hf.2.1
  have hz : w.heap.size + 1 < ((w.alloc (objP M)).alloc (objF f)).heap.size := by simp only [World.size_alloc]; omega
  clear hb2 h hf
  go_enter Tryd.func57, Tryd.ntmps57
  go_wp2
  generalize (w.alloc (objP M)).alloc (objF f) = W at *
  go_loopw [12] (fun u wr => ∃ k : Nat, k ≤ f.sels.length ∧ u = .int .i64 k ∧ (∀ j y, j < k → f.sels[j]? = some y → selE M.pr f.fn y.sel = 0) ∧ Below W.heap.size W wr) (fun u _ => f.sels.length - (intOf u).toNat)
  case atStart => exact ⟨0, Nat.zero_le _, rfl, fun j y hj => by omega, Below.refl _ _⟩
  case round =>
    obtain ⟨k, hk, rfl, hall, hbr⟩ := hrel
    have hall' : ∀ i y, i < k → f.fn.sels[i]? = some y → selE M.pr f.fn y = 0 := fun i y hi hy => by
      simp only [MFn.fn, List.getElem?_map, Option.map_eq_some_iff] at hy
      obtain ⟨y', hy', rfl⟩ := hy
      exact hall i y' hi hy'
    have hbw : Below w.heap.size w wr := bthen hb hbr
    by_cases hlt : k < f.sels.length
    · obtain ⟨y, hy, hm⟩ := get_lt f.sels k hlt
      obtain ⟨b, o, hix, hbl, c0, c1⟩ := sel_ix (hFL.later hbr).2.1 k y hy
      have hYl := ((hFL.later hbr).2.2.2.1 y hm).later (boxed wr (objS y))
      have hlny := rows_len hYl.1
      have hbW1 : Below W.heap.size W (wr.alloc (objS y)) := bthen hbr (boxed wr (objS y))
      have hb1 : Hid (Below w.heap.size w (wr.alloc (objS y))) := bthen hbw (boxed wr (objS y))
      have bY := boxS_new wr y
      go_wp2
      have hzr : W.heap.size ≤ wr.heap.size := hbr.size
      have hzY : wr.heap.size < (wr.alloc (objS y)).heap.size := by simp only [World.size_alloc]; omega
      clear hix c0 c1 hbl
      generalize hBY : wr.heap.size = BY at *
      generalize wr.alloc (objS y) = W1 at *
      clear hBY
      go_loopw [19] (fun u wr => ∃ q : Nat, q ≤ y.cases.length ∧ u = .int .i64 q ∧ (∀ j z, j < q → y.cases[j]? = some z → casE M.pr f.fn z = 0) ∧ Below W1.heap.size W1 wr) (fun u _ => y.cases.length - (intOf u).toNat)
      case atStart => exact ⟨0, Nat.zero_le _, rfl, fun j y hj => by omega, Below.refl _ _⟩
      case round =>
        obtain ⟨q, hq, rfl, hallc, hbr2⟩ := hrel
        have hbW2 := bthen hbW1 hbr2
        obtain ⟨p0, p1, p2, p3⟩ := bP.later hbW2
        obtain ⟨f0, f1, f2, f3⟩ := bF.later hbW2
        obtain ⟨y0, y1⟩ := bY.later hbr2
        have hbx : Below w.heap.size w wr := bthen hb1.out hbr2
        have z := hbW2.size
        have z' := hbr2.size
        have z0 : w.heap.size < wr.heap.size := by omega
        have z1 : w.heap.size + 1 < wr.heap.size := by omega
        have z2 : BY < wr.heap.size := by omega
        have hit : ∀ e : Int, e ≠ 0 → (∃ x, y.cases[q]? = some x ∧ casE M.pr f.fn x = e) → firstE (selE M.pr f.fn) f.fn.sels = e := fun e he ⟨x, hx, hxe⟩ => by
          have h1 : selE M.pr f.fn y.sel = e := selE_cas ((firstE_hit _ _ q x hx hallc (by rw [hxe]; exact he)).trans hxe) he
          exact (firstE_hit _ _ k y.sel (sels_get f k y hy) hall' (by rw [h1]; exact he)).trans h1
        by_cases hlq : q < y.cases.length
        · obtain ⟨x, hx, hxm⟩ := get_lt y.cases q hlq
          obtain ⟨b, o, hix, hbl, c0, c1, c2, c3⟩ := cas_ix (hYl.later hbr2).1 q x hx
          have hit : ∀ e : Int, e ≠ 0 → casE M.pr f.fn x = e → firstE (selE M.pr f.fn) f.fn.sels = e := fun e he hxe => hit e he ⟨x, hx, hxe⟩
          have hMl := hL.later hbW2
          clear bP bF bY hL hFL hYl
          by_cases h1 : 0 ≤ x.ch ∧ x.ch < M.chans.length
          · have q1 : inR x.ch M.pr.chans.length := h1
            obtain ⟨kk, hkk⟩ : ∃ kk : Nat, x.ch = (kk : Int) := ⟨x.ch.toNat, by omega⟩
            obtain ⟨cx, hcx, _⟩ := get_lt M.chans kk (by omega)
            have hrm : Hid (M.pr.room x.ch = cx) := by rw [hkk]; exact sel_room M kk cx hcx
            obtain ⟨bb, oo, hixc, hblc, hcl⟩ := ch_ix hMl.2.1 kk cx hcx
            rw [← hkk] at hixc
            clear hcx hkk hMl
            by_cases h2 : 0 ≤ x.reg ∧ x.reg < f.regs
            · have q2 : inR x.reg f.fn.regs ∨ x.reg = -1 ∧ x.send = false := .inl h2
              have hn : ¬ x.reg = -1 := by omega
              by_cases h4 : 0 ≤ x.to ∧ x.to < f.code.length
              · cases hs : x.send with
                | true =>
                  rw [hs] at c0
                  by_cases h3 : cx = 0
                  · have he : casE M.pr f.fn x = 37 := casE_kind q1 q2 ⟨hs, hrm.out.trans h3⟩
                    have hv : Hid (r = 37) := hr.out.symm.trans (hit 37 (by decide) he)
                    go_wp2_with (go_at_call 63; first | (with_reducible refine (within_t _ _ _ (by omega)).mono ?_; rintro e w' ⟨rfl, rfl⟩) | (with_reducible refine (within_f _ _ _ (by omega)).mono ?_; rintro e w' ⟨rfl, rfl⟩))
                    go_ret
                    exact ⟨ret_i hv.out.symm, bthen hbx (boxed _ _)⟩
                  · have he : casE M.pr f.fn x = 0 := casE_ok q1 q2 (fun t => h3 (hrm.out.symm.trans t.2)) h4
                    go_wp2_with (go_at_call 63; first | (with_reducible refine (within_t _ _ _ (by omega)).mono ?_; rintro e w' ⟨rfl, rfl⟩) | (with_reducible refine (within_f _ _ _ (by omega)).mono ?_; rintro e w' ⟨rfl, rfl⟩))
                    go_roundw
                    case rel => exact ⟨q + 1, by omega, by go_num, (fun j z hj hz => by
                      by_cases hjk : j = q
                      · subst hjk; rw [hx] at hz; cases hz; exact he
                      · exact hallc j z (by omega) hz), bthen hbr2 (boxed _ _)⟩
                    case measure => simp [intOf]; omega
                | false =>
                  rw [hs] at c0
                  have he : casE M.pr f.fn x = 0 := casE_ok q1 q2 (fun t => by rw [hs] at t; simp at t) h4
                  go_wp2_with (go_at_call 63; first | (with_reducible refine (within_t _ _ _ (by omega)).mono ?_; rintro e w' ⟨rfl, rfl⟩) | (with_reducible refine (within_f _ _ _ (by omega)).mono ?_; rintro e w' ⟨rfl, rfl⟩))
                  go_roundw
                  case rel => exact ⟨q + 1, by omega, by go_num, (fun j z hj hz => by
                    by_cases hjk : j = q
                    · subst hjk; rw [hx] at hz; cases hz; exact he
                    · exact hallc j z (by omega) hz), bthen hbr2 (boxed _ _)⟩
                  case measure => simp [intOf]; omega
              · cases hs : x.send with
                | true =>
                  rw [hs] at c0
                  by_cases h3 : cx = 0
                  · have he : casE M.pr f.fn x = 37 := casE_kind q1 q2 ⟨hs, hrm.out.trans h3⟩
                    have hv : Hid (r = 37) := hr.out.symm.trans (hit 37 (by decide) he)
                    go_wp2_with (go_at_call 63; first | (with_reducible refine (within_t _ _ _ (by omega)).mono ?_; rintro e w' ⟨rfl, rfl⟩) | (with_reducible refine (within_f _ _ _ (by omega)).mono ?_; rintro e w' ⟨rfl, rfl⟩))
                    go_ret
                    exact ⟨ret_i hv.out.symm, bthen hbx (boxed _ _)⟩
                  · have he : casE M.pr f.fn x = 38 := casE_target q1 q2 (fun t => h3 (hrm.out.symm.trans t.2)) h4
                    have hv : Hid (r = 38) := hr.out.symm.trans (hit 38 (by decide) he)
                    go_wp2_with (go_at_call 63; first | (with_reducible refine (within_t _ _ _ (by omega)).mono ?_; rintro e w' ⟨rfl, rfl⟩) | (with_reducible refine (within_f _ _ _ (by omega)).mono ?_; rintro e w' ⟨rfl, rfl⟩))
                    go_ret
                    exact ⟨ret_i hv.out.symm, bthen hbx (boxed _ _)⟩
                | false =>
                  rw [hs] at c0
                  have he : casE M.pr f.fn x = 38 := casE_target q1 q2 (fun t => by rw [hs] at t; simp at t) h4
                  have hv : Hid (r = 38) := hr.out.symm.trans (hit 38 (by decide) he)
                  go_wp2_with (go_at_call 63; first | (with_reducible refine (within_t _ _ _ (by omega)).mono ?_; rintro e w' ⟨rfl, rfl⟩) | (with_reducible refine (within_f _ _ _ (by omega)).mono ?_; rintro e w' ⟨rfl, rfl⟩))
                  go_ret
                  exact ⟨ret_i hv.out.symm, bthen hbx (boxed _ _)⟩
            · by_cases hn : x.reg = -1
              · cases hs : x.send with
                | true =>
                  rw [hs] at c0
                  have he : casE M.pr f.fn x = 35 := casE_reg q1 (fun t => t.elim h2 fun t => by rw [hs] at t; simp at t)
                  have hv : Hid (r = 35) := hr.out.symm.trans (hit 35 (by decide) he)
                  go_wp2_with (go_at_call 63; first | (with_reducible refine (within_t _ _ _ (by omega)).mono ?_; rintro e w' ⟨rfl, rfl⟩) | (with_reducible refine (within_f _ _ _ (by omega)).mono ?_; rintro e w' ⟨rfl, rfl⟩))
                  go_ret
                  exact ⟨ret_i hv.out.symm, bthen hbx (boxed _ _)⟩
                | false =>
                  rw [hs] at c0
                  by_cases h4 : 0 ≤ x.to ∧ x.to < f.code.length
                  · have he : casE M.pr f.fn x = 0 := casE_ok q1 (.inr ⟨hn, hs⟩) (fun t => by rw [hs] at t; simp at t) h4
                    go_wp2_with (go_at_call 63; first | (with_reducible refine (within_t _ _ _ (by omega)).mono ?_; rintro e w' ⟨rfl, rfl⟩) | (with_reducible refine (within_f _ _ _ (by omega)).mono ?_; rintro e w' ⟨rfl, rfl⟩))
                    go_roundw
                    case rel => exact ⟨q + 1, by omega, by go_num, (fun j z hj hz => by
                      by_cases hjk : j = q
                      · subst hjk; rw [hx] at hz; cases hz; exact he
                      · exact hallc j z (by omega) hz), bthen hbr2 (boxed _ _)⟩
                    case measure => simp [intOf]; omega
                  · have he : casE M.pr f.fn x = 38 := casE_target q1 (.inr ⟨hn, hs⟩) (fun t => by rw [hs] at t; simp at t) h4
                    have hv : Hid (r = 38) := hr.out.symm.trans (hit 38 (by decide) he)
                    go_wp2_with (go_at_call 63; first | (with_reducible refine (within_t _ _ _ (by omega)).mono ?_; rintro e w' ⟨rfl, rfl⟩) | (with_reducible refine (within_f _ _ _ (by omega)).mono ?_; rintro e w' ⟨rfl, rfl⟩))
                    go_ret
                    exact ⟨ret_i hv.out.symm, bthen hbx (boxed _ _)⟩
              · cases hs : x.send
                all_goals
                  rw [hs] at c0
                  have he : casE M.pr f.fn x = 35 := casE_reg q1 (fun t => t.elim h2 fun t => hn t.1)
                  have hv : Hid (r = 35) := hr.out.symm.trans (hit 35 (by decide) he)
                  go_wp2_with (go_at_call 63; first | (with_reducible refine (within_t _ _ _ (by omega)).mono ?_; rintro e w' ⟨rfl, rfl⟩) | (with_reducible refine (within_f _ _ _ (by omega)).mono ?_; rintro e w' ⟨rfl, rfl⟩))
                  go_ret
                  exact ⟨ret_i hv.out.symm, bthen hbx (boxed _ _)⟩
          · have he : casE M.pr f.fn x = 36 := casE_obj h1
            have hv : Hid (r = 36) := hr.out.symm.trans (hit 36 (by decide) he)
            go_wp2_with (go_at_call 63; first | (with_reducible refine (within_t _ _ _ (by omega)).mono ?_; rintro e w' ⟨rfl, rfl⟩) | (with_reducible refine (within_f _ _ _ (by omega)).mono ?_; rintro e w' ⟨rfl, rfl⟩))
            go_ret
            exact ⟨ret_i hv.out.symm, bthen hbx (boxed _ _)⟩
        · have hz0 : firstE (casE M.pr f.fn) y.sel.cases = 0 := firstE_zero _ _ fun x hx => by
            obtain ⟨j, hj, rfl⟩ := List.getElem_of_mem hx
            exact hallc j _ (by have : j < y.cases.length := hj; omega) (List.getElem?_eq_getElem hj)
          clear hallc hit bY
          by_cases h1 : y.els = -1
          · have he : selE M.pr f.fn y.sel = 0 := selE_ok hz0 (.inl h1)
            clear hz0
            go_wp2
            go_roundw
            case rel => exact ⟨k + 1, by omega, by go_num, (fun j z hj hz => by
              by_cases hjk : j = k
              · subst hjk; rw [hy] at hz; cases hz; exact he
              · exact hall j z (by omega) hz), hbW2⟩
            case measure => simp [intOf]; omega
          · by_cases h2 : 0 ≤ y.els ∧ y.els < f.code.length
            · have he : selE M.pr f.fn y.sel = 0 := selE_ok hz0 (.inr h2)
              clear hz0
              go_wp2_with (go_at_call 63; first | (with_reducible refine (within_t _ _ _ (by omega)).mono ?_; rintro e w' ⟨rfl, rfl⟩) | (with_reducible refine (within_f _ _ _ (by omega)).mono ?_; rintro e w' ⟨rfl, rfl⟩))
              go_roundw
              case rel => exact ⟨k + 1, by omega, by go_num, (fun j z hj hz => by
                by_cases hjk : j = k
                · subst hjk; rw [hy] at hz; cases hz; exact he
                · exact hall j z (by omega) hz), hbW2⟩
              case measure => simp [intOf]; omega
            · have h38 : selE M.pr f.fn y.sel = 38 := selE_else hz0 (fun t => t.elim h1 h2)
              have hv : Hid (r = 38) := hr.out.symm.trans ((firstE_hit _ _ k y.sel (sels_get f k y hy) hall' (by rw [h38]; decide)).trans h38)
              clear hz0
              go_wp2_with (go_at_call 63; first | (with_reducible refine (within_t _ _ _ (by omega)).mono ?_; rintro e w' ⟨rfl, rfl⟩) | (with_reducible refine (within_f _ _ _ (by omega)).mono ?_; rintro e w' ⟨rfl, rfl⟩))
              go_ret
              exact ⟨ret_i hv.out.symm, hbx⟩
    · have hv : Hid (r = 0) := hr.out.symm.trans (firstE_zero _ _ fun s hs => by
        simp only [MFn.fn, List.mem_map] at hs
        obtain ⟨y, hy, rfl⟩ := hs
        obtain ⟨j, hj, rfl⟩ := List.getElem_of_mem hy
        exact hall j _ (by omega) (List.getElem?_eq_getElem hj))
      go_wp2
      go_ret
      exact ⟨ret_i hv.out.symm, hbw⟩
end Go.Proofs.YtlcljdldhajkiaaDoor.pg
