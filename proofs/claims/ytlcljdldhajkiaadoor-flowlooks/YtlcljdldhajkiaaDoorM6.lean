/- The contracts of package prog's looks at parameters of a spawn, and at whole instructions. -/
import Derived.Test.YtlcljdldhajkiaaDoorM5
import Derived.Deep.RegionHeld3
import Derived.Deep.DrawnRows
import Derived.Test.YtlcljdldhajkiaaDoorM2
import Derived.Deep.DeepCutAuto
import Derived.Test.YtlcljdldhajkiaaDoorM4
import Derived.SizedLaws
namespace Go.Proofs.YtlcljdldhajkiaaDoor.pg
open Go.ChangeShapes Go.WideShapes Go.ChangeAt Go.RowKit
set_option linter.unusedVariables false
set_option linter.unusedSimpArgs false
set_option maxRecDepth 100000
section
variable (M : MPr) (f : MFn) (i : Ins) (x : Int) (w : World) (r : Int) (l : Int)
theorem op_p (k : Nat) (y : MFn) (hk : i.b = (k : Int)) (hy : M.fns[k]? = some y) (hl : M.lies w) (hw : i.wf) (h0 : 0 ≤ f.regs) (h8 : f.regs ≤ 8) (hr : Hid (opE M f i x 112 = r)) :
    Calls Tryd.prog 75 #[M.val, f.val, i.val, .int .u8 112, .int .i64 x] w fun e w' => e = .returned (.int .i64 r) ∧ Below w.heap.size w w' := by
  have hlt : k < M.fns.length := (List.getElem?_eq_some_iff.mp hy).1
  have hp : M.pr.par i.b = y.params := by rw [hk]; simp [Pr.par, MPr.pr, MFn.fn, hy]
  have hb1 := boxed w (objP M)
  have hb2 := boxed (w.alloc (objP M)) (objF f)
  have hb3 := boxed ((w.alloc (objP M)).alloc (objF f)) (objI i)
  have hb := boxed3 w (objP M) (objF f) (objI i)
  obtain ⟨p0, p1, p2, p3⟩ := ((boxP_new w M).later hb2).later hb3
  have bF := (boxF_new (w.alloc (objP M)) f).later hb3
  have bI := boxI_new ((w.alloc (objP M)).alloc (objF f)) i
  simp only [World.size_alloc] at bF bI
  obtain ⟨f0, f1, f2, f3⟩ := bF
  obtain ⟨i0, i1, i2, i3, i4⟩ := bI
  obtain ⟨b, o, hix, hbl, c0, c1, c2, c3⟩ := fn_ix (hl.later hb).2.2.1 k y hy
  rw [← hk] at hix
  have hyp : I64 y.params := (hl.2.2.2.2.2.2 y (List.mem_of_getElem? hy)).2.2.2.2.1
  have hic : I64 i.c := hw.2.2.2.1
  obtain ⟨rb, hrb⟩ : ∃ rb, Hid (decide (roomP y.params i.c f.regs) = rb) := ⟨_, rfl⟩
  have hv : Hid (r = if rb = true then 0 else 35) := hr.out.symm.trans (by
    simp only [opE, opndE, Int.reduceEq, false_and, false_or, or_false, true_or, or_true, if_false, if_true, hp]
    rw [← hrb.out]
    simp only [decide_eq_true_eq])
  have hR : ∀ wx, Calls Tryd.prog 77 #[.int .i64 y.params, .int .i64 i.c, .int .i64 f.regs] wx _ := fun wx => roomFor_any y.params i.c f.regs wx hyp hic h0 h8 rb hrb
  clear hb1 hb2 hb3 hl hw hy hp hyp hic hr
  have hbI : 0 ≤ i.b ∧ i.b < (M.fns.length : Int) := by omega
  clear hk hlt
  go_enter Tryd.func75, Tryd.ntmps75
  go_wp2_with fail
  generalize ((w.alloc (objP M)).alloc (objF f)).alloc (objI i) = W at *
  cases rb with
  | true =>
    go_quiet (first | (go_at_call 77; exact Calls.quiet_of_same (hR _)) | (go_at_call 76; exact Calls.quiet_of_same (unless_t _ _)))
    go_wp2
    go_ret
    exact ⟨ret_i hv.out.symm, below_drewN hb _⟩
  | false =>
    go_quiet (first | (go_at_call 77; exact Calls.quiet_of_same (hR _)) | (go_at_call 76; exact Calls.quiet_of_same (unless_f _ _)))
    go_wp2
    go_ret
    exact ⟨ret_i hv.out.symm, below_drewN hb _⟩
theorem op_else (h1 : ¬ l = 111) (h2 : ¬ l = 114) (h3 : ¬ l = 119) (h4 : ¬ l = 112) (h5 : ¬ l = 97) (h6 : ¬ l = 118) (h7 : ¬ l = 108) (h8 : ¬ l = 99) (h9 : ¬ l = 115) (h10 : ¬ l = 102) (h11 : ¬ l = 116) (hr : Hid (opE M f i x l = r)) :
    Calls Tryd.prog 75 #[M.val, f.val, i.val, .int .u8 l, .int .i64 x] w fun e w' => e = .returned (.int .i64 r) ∧ Below w.heap.size w w' := by
  have hv : Hid (r = 0) := hr.out.symm.trans (by simp only [opE, opndE, h1, h2, h3, h4, h5, h6, h7, h8, h9, h10, h11, false_and, or_self, if_false])
  go_enter Tryd.func75, Tryd.ntmps75
  go_wp2
  go_ret
  exact ⟨ret_i hv.out.symm, boxed3 _ _ _ _⟩
/-- Every operand, whatever its letter. -/
theorem checkOperand_any (hl : M.lies w) (hw : i.wf) (h0 : 0 ≤ f.regs) (h8 : f.regs ≤ 8) (hp : l = 112 → 0 ≤ i.b ∧ i.b < (M.fns.length : Int)) (hr : Hid (opE M f i x l = r)) :
    Calls Tryd.prog 75 #[M.val, f.val, i.val, .int .u8 l, .int .i64 x] w fun e w' => e = .returned (.int .i64 r) ∧ Below w.heap.size w w' := by
  by_cases l1 : l = 111
  · subst l1
    by_cases hx : x = -1
    · exact op_o_none M f i x w r hx hr
    by_cases h : 0 ≤ x ∧ x < f.regs
    · exact op_o_t M f i x w r hx h hr
    · exact op_o_f M f i x w r hx h hr
  by_cases l2 : l = 114
  · subst l2
    by_cases h : 0 ≤ x ∧ x < f.regs
    · exact op_r_t M f i x w r h hr
    · exact op_r_f M f i x w r h hr
  by_cases l3 : l = 119
  · subst l3
    by_cases h : 0 ≤ x ∧ x < f.regs
    · exact op_w_t M f i x w r h hr
    · exact op_w_f M f i x w r h hr
  by_cases l4 : l = 112
  · subst l4
    have hb := hp rfl
    obtain ⟨y, hy, _⟩ := get_lt M.fns i.b.toNat (by omega)
    exact op_p M f i x w r i.b.toNat y (by omega) hy hl hw h0 h8 hr
  by_cases l5 : l = 97
  · subst l5
    by_cases h : 0 ≤ x ∧ x < (M.vars.length : Int)
    · obtain ⟨y, hy, _⟩ := get_lt M.vars x.toNat (by omega)
      exact op_a_t M f i x w r x.toNat y (by omega) hy hl hr
    · exact op_a_f M f i x w r h hr
  by_cases l6 : l = 118
  · subst l6
    by_cases h : 0 ≤ x ∧ x < (M.vars.length : Int)
    · exact op_v_t M f i x w r h hr
    · exact op_v_f M f i x w r h hr
  by_cases l7 : l = 108
  · subst l7
    by_cases h : 0 ≤ x ∧ x < M.locks
    · exact op_l_t M f i x w r h hr
    · exact op_l_f M f i x w r h hr
  by_cases l8 : l = 99
  · subst l8
    by_cases h : 0 ≤ x ∧ x < (M.chans.length : Int)
    · exact op_c_t M f i x w r h hr
    · exact op_c_f M f i x w r h hr
  by_cases l9 : l = 115
  · subst l9
    by_cases h : 0 ≤ x ∧ x < (f.sels.length : Int)
    · exact op_s_t M f i x w r h hr
    · exact op_s_f M f i x w r h hr
  by_cases l10 : l = 102
  · subst l10
    by_cases h : 0 ≤ x ∧ x < (M.fns.length : Int)
    · exact op_f_t M f i x w r h hr
    · exact op_f_f M f i x w r h hr
  by_cases l11 : l = 116
  · subst l11
    by_cases h : 0 ≤ x ∧ x < (f.code.length : Int)
    · exact op_t_t M f i x w r h hr
    · exact op_t_f M f i x w r h hr
  exact op_else M f i x w r l l1 l2 l3 l4 l5 l6 l7 l8 l9 l10 l11 hr
end
/-- The form that is read is the form that is meant. -/
theorem frm_form (op : Int) : prog.frm op = ⟨((formOf op).map fun x => UInt8.ofNat x.toNat).toArray⟩ := by
  by_cases h : 0 ≤ op ∧ op < 66
  · obtain ⟨n, rfl⟩ : ∃ n : Nat, op = (n : Int) := ⟨op.toNat, by omega⟩
    have key : ∀ n : Fin 66, (prog.frm ((n.val : Nat) : Int)).data.toList = (formOf ((n.val : Nat) : Int)).map fun x => UInt8.ofNat x.toNat := by decide
    have := key ⟨n, by omega⟩
    apply ByteArray.ext
    rw [← this]
  · have h1 : formOf op = [] := by
      unfold formOf
      repeat rw [if_neg (by omega)]
    rw [h1]
    unfold prog.frm
    by_cases h2 : op < 0
    · rw [if_pos h2]; rfl
    · rw [if_neg h2, if_neg (by omega), if_neg (by omega), if_neg (by omega)]; rfl
end Go.Proofs.YtlcljdldhajkiaaDoor.pg
/- The contract of package prog's look at an instruction. -/
namespace Go.Proofs.YtlcljdldhajkiaaDoor.pg
open Go.ChangeShapes Go.WideShapes Go.ChangeAt Go.RowKit
set_option linter.unusedVariables false
set_option linter.unusedSimpArgs false
set_option maxRecDepth 100000
attribute [local go_sem ↓] Go.wp_at_zero Go.wp_at_succ
/-- What lies in the box of the four operands. -/
def BoxX (w : World) (B : Nat) (x : Ins) : Prop := w.cell? ⟨B, 0, none⟩ = some (.int .i64 x.a) ∧ w.cell? ⟨B, 1, none⟩ = some (.int .i64 x.b) ∧ w.cell? ⟨B, 2, none⟩ = some (.int .i64 x.c) ∧ w.cell? ⟨B, 3, none⟩ = some (.int .i64 x.n)
theorem BoxX.later {w w' : World} {B : Nat} {x : Ins} (h : BoxX w B x) (hb : Below w.heap.size w w') : BoxX w' B x := ⟨cell_later hb h.1, cell_later hb h.2.1, cell_later hb h.2.2.1, cell_later hb h.2.2.2⟩
theorem keepI {W w' : World} {B : Nat} {i : Ins} (h : BoxI W B i) (hb : Below W.heap.size W w') : w'.cell? ⟨B, 0, none⟩ = some (.int .i64 i.op) ∧ w'.cell? ⟨B, 1, none⟩ = some (.int .i64 i.a) ∧ w'.cell? ⟨B, 2, none⟩ = some (.int .i64 i.b) ∧ w'.cell? ⟨B, 3, none⟩ = some (.int .i64 i.c) ∧ w'.cell? ⟨B, 4, none⟩ = some (.int .i64 i.n) ∧ Below W.heap.size W w' :=
  have q := h.later hb
  ⟨q.1, q.2.1, q.2.2.1, q.2.2.2.1, q.2.2.2.2, hb⟩
theorem bcell {W w1 : World} (hb : Below W.heap.size W w1) : (∀ b o, b < W.heap.size → w1.cell? ⟨b, o, none⟩ = W.cell? ⟨b, o, none⟩) ∧ (∀ b o, b < W.heap.size → w1.frozen? ⟨b, o, none⟩ = W.frozen? ⟨b, o, none⟩) :=
  ⟨fun b o h => hb.cell (p := ⟨b, o, none⟩) h, fun b o h => hb.frozen (p := ⟨b, o, none⟩) h⟩
theorem keepO {A B C D E Q : Prop} (h : A ∧ B ∧ C ∧ D ∧ E ∧ Q) : Q := h.2.2.2.2.2
theorem b_alloc {W X : World} (h : Below W.heap.size W X) (o : Obj) : Below W.heap.size W (X.alloc o) := bthen h (boxed X o)
theorem keepA {W w' : World} {B A : Nat} {M : MPr} {f : MFn} {i : Ins} (hP : BoxP W B M) (hF : BoxF W (B + 1) f) (hI : BoxI W (B + 1 + 1) i) (hX : BoxX W A i) (hb : Below W.heap.size W w') :
    w'.cell? ⟨B, 0, none⟩ = some (.slice M.va M.vars.length M.vcap) ∧ w'.cell? ⟨B, 1, none⟩ = some (.int .i64 M.locks) ∧ w'.cell? ⟨B, 2, none⟩ = some (.slice M.cha M.chans.length M.chcap) ∧ w'.cell? ⟨B, 3, none⟩ = some (.slice M.fa M.fns.length M.fcap) ∧ w'.cell? ⟨B + 1, 0, none⟩ = some (.int .i64 f.params) ∧ w'.cell? ⟨B + 1, 1, none⟩ = some (.int .i64 f.regs) ∧ w'.cell? ⟨B + 1, 2, none⟩ = some (.slice f.ca f.code.length f.ccap) ∧ w'.cell? ⟨B + 1, 3, none⟩ = some (.slice f.sa f.sels.length f.scap) ∧ w'.cell? ⟨B + 1 + 1, 0, none⟩ = some (.int .i64 i.op) ∧ w'.cell? ⟨B + 1 + 1, 1, none⟩ = some (.int .i64 i.a) ∧ w'.cell? ⟨B + 1 + 1, 2, none⟩ = some (.int .i64 i.b) ∧ w'.cell? ⟨B + 1 + 1, 3, none⟩ = some (.int .i64 i.c) ∧ w'.cell? ⟨B + 1 + 1, 4, none⟩ = some (.int .i64 i.n) ∧ w'.cell? ⟨A, 0, none⟩ = some (.int .i64 i.a) ∧ w'.cell? ⟨A, 1, none⟩ = some (.int .i64 i.b) ∧ w'.cell? ⟨A, 2, none⟩ = some (.int .i64 i.c) ∧ w'.cell? ⟨A, 3, none⟩ = some (.int .i64 i.n) ∧ Below W.heap.size W w' :=
  have p := hP.later hb
  have q := hF.later hb
  have t := hI.later hb
  have x := hX.later hb
  ⟨p.1, p.2.1, p.2.2.1, p.2.2.2, q.1, q.2.1, q.2.2.1, q.2.2.2, t.1, t.2.1, t.2.2.1, t.2.2.2.1, t.2.2.2.2, x.1, x.2.1, x.2.2.1, x.2.2.2, hb⟩
theorem keepL {A0 A1 A2 A3 A4 A5 A6 A7 A8 A9 A10 A11 A12 A13 A14 A15 A16 Q : Prop} (h : A0 ∧ A1 ∧ A2 ∧ A3 ∧ A4 ∧ A5 ∧ A6 ∧ A7 ∧ A8 ∧ A9 ∧ A10 ∧ A11 ∧ A12 ∧ A13 ∧ A14 ∧ A15 ∧ A16 ∧ Q) : Q := h.2.2.2.2.2.2.2.2.2.2.2.2.2.2.2.2.2
theorem p_room {r : Prop} [Decidable r] {P : Pr} {f : Fn} {i : Ins} (k : Nat) (hall : ∀ j, j < k → opndE r P f (lt i.op j) (i.x j) = 0) (h : lt i.op k = 112) : inR i.b P.fns.length := by
  obtain ⟨rfl, h1⟩ := p_where i.op k h
  have h2 := hall 1 (by omega)
  rw [h1] at h2
  apply Classical.byContradiction
  intro q
  have q' : ¬ inR (i.x 1) P.fns.length := q
  simp only [opndE, Int.reduceEq, false_and, false_or, or_false, or_self, if_false, if_true, if_neg q'] at h2
theorem set_same {w : World} {b j : Nat} {u v : Value} (h : w.cell? ⟨b, j, none⟩ = some u) : (w.setCell ⟨b, j, none⟩ v).cell? ⟨b, j, none⟩ = some v := World.cell?_setCell_same _ _ _ h
theorem set_other {w : World} {b j k : Nat} {v : Value} {r : Option Value} (hjk : j ≠ k) (h : w.cell? ⟨b, k, none⟩ = r) : (w.setCell ⟨b, j, none⟩ v).cell? ⟨b, k, none⟩ = r := by
  rw [World.cell?_setCell_other _ _ _ _ (by simp [hjk])]; exact h
theorem boxX_set {w : World} {A : Nat} {i : Ins} {u0 u1 u2 u3 : Value} (h0 : w.cell? ⟨A, 0, none⟩ = some u0) (h1 : w.cell? ⟨A, 1, none⟩ = some u1) (h2 : w.cell? ⟨A, 2, none⟩ = some u2) (h3 : w.cell? ⟨A, 3, none⟩ = some u3) :
    BoxX ((((w.setCell ⟨A, 0, none⟩ (.int .i64 i.a)).setCell ⟨A, 1, none⟩ (.int .i64 i.b)).setCell ⟨A, 2, none⟩ (.int .i64 i.c)).setCell ⟨A, 3, none⟩ (.int .i64 i.n)) A i :=
  ⟨set_other (by decide) (set_other (by decide) (set_other (by decide) (set_same h0))), set_other (by decide) (set_other (by decide) (set_same (set_other (by decide) h1))),
    set_other (by decide) (set_same (set_other (by decide) (set_other (by decide) h2))), set_same (set_other (by decide) (set_other (by decide) (set_other (by decide) h3)))⟩
theorem byte_str (a : Nat) (h : a < 256) : ((UInt8.ofNat ((a : Int).toNat)).toNat : Int) = (a : Int) := by
  simp only [Int.toNat_natCast, UInt8.toNat_ofNat']
  omega
set_option maxHeartbeats 4000000 in
theorem checkInstr_any (M : MPr) (f : MFn) (i : Ins) (w : World) (r : Int) (hl : M.lies w) (hw : i.wf) (h0 : 0 ≤ f.regs) (h8 : f.regs ≤ 8) (hF : prog.Forms w) (hr : Hid (insP M.pr f.fn i = r)) :
    Calls Tryd.prog 70 #[M.val, f.val, i.val] w fun e w' => e = .returned (.int .i64 r) ∧ Below w.heap.size w w' := by
  have hb1 := boxed w (objP M)
  have hb2 := boxed (w.alloc (objP M)) (objF f)
  have hb3 := boxed ((w.alloc (objP M)).alloc (objF f)) (objI i)
  have hb := boxed3 w (objP M) (objF f) (objI i)
  have bP := ((boxP_new w M).later hb2).later hb3
  have bF := (boxF_new (w.alloc (objP M)) f).later hb3
  have bI := boxI_new ((w.alloc (objP M)).alloc (objF f)) i
  simp only [World.size_alloc] at bF bI
  have hL := hl.later hb
  have hFW := hF.later hb
  have hz : w.heap.size + 1 + 1 < (((w.alloc (objP M)).alloc (objF f)).alloc (objI i)).heap.size := by simp only [World.size_alloc]; omega
  clear hb1 hb2 hb3 hl hF
  obtain ⟨F, hFm⟩ : ∃ F, Hid (prog.frm i.op = F) := ⟨_, rfl⟩
  have hop : I64 i.op := hw.1
  go_enter Tryd.func70, Tryd.ntmps70
  go_upto_region 1 with fail
  generalize ((w.alloc (objP M)).alloc (objF f)).alloc (objI i) = W at *
  have hbI : Hid (BoxI W (w.heap.size + 1 + 1) i) := bI
  obtain ⟨i0, i1, i2, i3, i4⟩ := bI
  go_cut [7, 8] (fun u7 u8 wx => ∃ A, u7 = .string F ∧ u8 = .pointer (some ⟨A, 0, none⟩) ∧ BoxX wx A i ∧ Below W.heap.size W wx)
  case first =>
    go_region_held3 (fun w' => w'.cell? ⟨w.heap.size + 1 + 1, 0, none⟩ = some (.int .i64 i.op) ∧ w'.cell? ⟨w.heap.size + 1 + 1, 1, none⟩ = some (.int .i64 i.a) ∧ w'.cell? ⟨w.heap.size + 1 + 1, 2, none⟩ = some (.int .i64 i.b) ∧ w'.cell? ⟨w.heap.size + 1 + 1, 3, none⟩ = some (.int .i64 i.c) ∧ w'.cell? ⟨w.heap.size + 1 + 1, 4, none⟩ = some (.int .i64 i.n) ∧ Below W.heap.size W w') ((refine keepI hbI.out ?_; repeat (first | exact keepO (by assumption) | assumption | exact Below.refl _ _ | refine Below.drew ?_ | refine b_alloc ?_ _ | (refine Below.setCell ?_ (by simp only [World.size_alloc, World.size_drew]; omega) _))))
      (first | (go_at_call 62; refine (prog.form_any i.op hop.1 hop.2 _ (hFW.later (by first | exact keepO (by assumption) | exact (Below.refl _ _).drew)) F hFm.out).mono ?_; rintro e w' ⟨rfl, rfl⟩) | (go_at_call 74; refine (operands_any i _).mono ?_; rintro e w' ⟨rfl, hb2⟩; obtain ⟨hbc, hbf⟩ := bcell hb2; have hBW : Below W.heap.size W w' := bthen (by first | exact keepO (by assumption) | exact (Below.refl _ _).drew) hb2; have hBs := hBW.size))
    · go_wp2_with fail
      go_meet
      case rel => exact ⟨_, rfl, rfl, ⟨by simp [go_sem], by simp [go_sem], by simp [go_sem], by simp [go_sem]⟩, b_alloc hBW _⟩
    all_goals
      go_wp2_with fail
      go_meet
      case rel =>
        have hA : ∀ j, j < 4 → w'.cell? ⟨W.heap.size, j, none⟩ = some (.int .i64 0) := fun j hj => by
          refine cell_later hb2 ?_
          show (W.alloc _).cell? _ = _
          rw [World.cell?_alloc_at _ _ _ _ rfl]
          match j, hj with
          | 0, _ => rfl
          | 1, _ => rfl
          | 2, _ => rfl
          | 3, _ => rfl
        exact ⟨_, rfl, rfl, boxX_set (hA 0 (by omega)) (hA 1 (by omega)) (hA 2 (by omega)) (hA 3 (by omega)), (((hBW.setCell (Nat.le_refl _) _).setCell (Nat.le_refl _) _).setCell (Nat.le_refl _) _).setCell (Nat.le_refl _) _⟩
  case rest =>
    obtain ⟨A, rfl, rfl, hX, hWc⟩ := hcut
    have hbw : Below w.heap.size w wc := bthen hb hWc
    have hFF := hFm.out
    rw [frm_form] at hFF
    rcases formOf_four i.op with hne | ⟨a0, a1, a2, a3, hf4, q0, q1, q2, q3⟩
    · have hv : Hid (r = 33) := hr.out.symm.trans (insE_op hne)
      rw [hne] at hFF
      subst hFF
      clear hFm
      go_wp2
      go_ret
      exact ⟨ret_i hv.out.symm, hbw⟩
    · have hne : Hid (formOf i.op ≠ []) := by show _ ≠ _; rw [hf4]; simp
      have L0 : Hid (lt i.op 0 = (a0 : Int)) := by show lt i.op 0 = _; unfold lt; rw [hf4]; rfl
      have L1 : Hid (lt i.op 1 = (a1 : Int)) := by show lt i.op 1 = _; unfold lt; rw [hf4]; rfl
      have L2 : Hid (lt i.op 2 = (a2 : Int)) := by show lt i.op 2 = _; unfold lt; rw [hf4]; rfl
      have L3 : Hid (lt i.op 3 = (a3 : Int)) := by show lt i.op 3 = _; unfold lt; rw [hf4]; rfl
      have B0 := byte_str a0 q0
      have B1 := byte_str a1 q1
      have B2 := byte_str a2 q2
      have B3 := byte_str a3 q3
      rw [hf4] at hFF
      simp only [List.map] at hFF
      clear hFm hf4
      generalize UInt8.ofNat ((a0 : Int).toNat) = c0 at *
      generalize UInt8.ofNat ((a1 : Int).toNat) = c1 at *
      generalize UInt8.ofNat ((a2 : Int).toNat) = c2 at *
      generalize UInt8.ofNat ((a3 : Int).toNat) = c3 at *
      subst hFF
      have C0 : ((⟨#[c0, c1, c2, c3]⟩ : ByteArray)[0]'(by show 0 < 4; decide)).toNat = a0 := by show c0.toNat = a0; omega
      have C1 : ((⟨#[c0, c1, c2, c3]⟩ : ByteArray)[1]'(by show 1 < 4; decide)).toNat = a1 := by show c1.toNat = a1; omega
      have C2 : ((⟨#[c0, c1, c2, c3]⟩ : ByteArray)[2]'(by show 2 < 4; decide)).toNat = a2 := by show c2.toNat = a2; omega
      have C3 : ((⟨#[c0, c1, c2, c3]⟩ : ByteArray)[3]'(by show 3 < 4; decide)).toNat = a3 := by show c3.toNat = a3; omega
      clear B0 B1 B2 B3 q0 q1 q2 q3
      have hbX0 : Hid (BoxX wc A i) := hX
      have hbP0 : Hid (BoxP wc w.heap.size M) := bP.later hWc
      have hbF0 : Hid (BoxF wc (w.heap.size + 1) f) := bF.later hWc
      have hbI0 : Hid (BoxI wc (w.heap.size + 1 + 1) i) := hbI.out.later hWc
      have hLc : Hid (M.lies wc) := hL.later hWc
      obtain ⟨x0, x1, x2, x3⟩ := hX
      clear bP bF hL hFW i0 i1 i2 i3 i4 hbI hWc hop hb
      go_wp2
      go_loop [21] (fun u => ∃ k : Nat, k ≤ 4 ∧ u = .int .i64 k ∧ ∀ j, j < k → ¬ (lt i.op j = 45 ∧ i.x j ≠ 0)) (fun u => 4 - (intOf u).toNat)
      case atStart => exact ⟨0, Nat.zero_le _, rfl, fun j hj => by omega⟩
      case round =>
        obtain ⟨k, hk, rfl, hall⟩ := hrel
        by_cases hk4 : k = 4
        · subst hk4
          have hun : Hid (¬ unused i) := fun q => by obtain ⟨j, hj, q⟩ := (unused_iff i).mp q; exact hall j hj q
          clear hall x0 x1 x2 x3
          go_wp2
          go_loopw [37] (fun u wr => ∃ k : Nat, k ≤ 4 ∧ u = .int .i64 k ∧ (∀ j, j < k → opndE (roomP (M.pr.par i.b) i.c f.fn.regs) M.pr f.fn (lt i.op j) (i.x j) = 0) ∧ Below wc.heap.size wc wr) (fun u _ => 4 - (intOf u).toNat)
          case atStart => exact ⟨0, Nat.zero_le _, rfl, (fun j hj => by omega), Below.refl _ _⟩
          case round =>
            obtain ⟨k, hk, rfl, hall, hbr⟩ := hrel
            have hbX : Hid (BoxX wr A i) := hbX0.out.later hbr
            have hbP : Hid (BoxP wr w.heap.size M) := hbP0.out.later hbr
            have hbF : Hid (BoxF wr (w.heap.size + 1) f) := hbF0.out.later hbr
            have hbI' : Hid (BoxI wr (w.heap.size + 1 + 1) i) := hbI0.out.later hbr
            have hLr : M.lies wr := hLc.out.later hbr
            by_cases hk4 : k = 4
            · subst hk4
              have hv : Hid (r = 0) := hr.out.symm.trans (insE_ok hne.out hun.out hall)
              go_wp2
              go_ret
              exact ⟨ret_i hv.out.symm, bthen hbw hbr⟩
            have hk0 : k = 0 ∨ k = 1 ∨ k = 2 ∨ k = 3 := by omega
            rcases hk0 with hk0 | hk1 | hk2 | hk3
            · subst hk0
              obtain ⟨e, he⟩ : ∃ e, Hid (opE M f i i.a (a0 : Int) = e) := ⟨_, rfl⟩
              have he' : Hid (opE M f i (i.x 0) (lt i.op 0) = e) := by show opE M f i i.a (lt i.op 0) = e; rw [L0.out]; exact he.out
              have hp : (a0 : Int) = 112 → 0 ≤ i.b ∧ i.b < (M.fns.length : Int) := fun h => by have := p_room 0 hall (L0.out.trans h); simpa [MPr.pr] using this
              have hcall : ∀ wx, Below wr.heap.size wr wx → Calls Tryd.prog 75 #[M.val, f.val, i.val, .int .u8 (a0 : Int), .int .i64 i.a] wx _ := fun wx hx => checkOperand_any M f i i.a wx e (a0 : Int) (hLr.later hx) hw h0 h8 hp he
              clear he hp hLr
              obtain ⟨p0, p1, p2, p3, f0, f1, f2, f3, i0, i1, i2, i3, i4, x0, x1, x2, x3, _⟩ := keepA hbP.out hbF.out hbI'.out hbX.out (Below.refl _ wr)
              go_wp2_with fail
              go_region_held3 (fun w' => w'.cell? ⟨w.heap.size, 0, none⟩ = some (.slice M.va M.vars.length M.vcap) ∧ w'.cell? ⟨w.heap.size, 1, none⟩ = some (.int .i64 M.locks) ∧ w'.cell? ⟨w.heap.size, 2, none⟩ = some (.slice M.cha M.chans.length M.chcap) ∧ w'.cell? ⟨w.heap.size, 3, none⟩ = some (.slice M.fa M.fns.length M.fcap) ∧ w'.cell? ⟨w.heap.size + 1, 0, none⟩ = some (.int .i64 f.params) ∧ w'.cell? ⟨w.heap.size + 1, 1, none⟩ = some (.int .i64 f.regs) ∧ w'.cell? ⟨w.heap.size + 1, 2, none⟩ = some (.slice f.ca f.code.length f.ccap) ∧ w'.cell? ⟨w.heap.size + 1, 3, none⟩ = some (.slice f.sa f.sels.length f.scap) ∧ w'.cell? ⟨w.heap.size + 1 + 1, 0, none⟩ = some (.int .i64 i.op) ∧ w'.cell? ⟨w.heap.size + 1 + 1, 1, none⟩ = some (.int .i64 i.a) ∧ w'.cell? ⟨w.heap.size + 1 + 1, 2, none⟩ = some (.int .i64 i.b) ∧ w'.cell? ⟨w.heap.size + 1 + 1, 3, none⟩ = some (.int .i64 i.c) ∧ w'.cell? ⟨w.heap.size + 1 + 1, 4, none⟩ = some (.int .i64 i.n) ∧ w'.cell? ⟨A, 0, none⟩ = some (.int .i64 i.a) ∧ w'.cell? ⟨A, 1, none⟩ = some (.int .i64 i.b) ∧ w'.cell? ⟨A, 2, none⟩ = some (.int .i64 i.c) ∧ w'.cell? ⟨A, 3, none⟩ = some (.int .i64 i.n) ∧ Below wr.heap.size wr w') ((refine keepA hbP.out hbF.out hbI'.out hbX.out ?_; repeat (first | exact keepL (by assumption) | assumption | exact Below.refl _ _ | refine Below.drew ?_)))
                (first | (go_at_call 75; refine (hcall _ (by repeat (first | exact keepL (by assumption) | exact Below.refl _ _ | refine Below.drew ?_))).mono ?_; rintro e w' ⟨rfl, hb2⟩; have hBW : Below wr.heap.size wr w' := bthen (by repeat (first | exact keepL (by assumption) | exact Below.refl _ _ | refine Below.drew ?_)) hb2))
              by_cases h00 : e = 0
              · subst h00
                go_wp2
                go_roundw
                case rel => exact ⟨1, by omega, rfl, (fun j hj => by
                  by_cases hj' : j = 0
                  · subst hj'; exact he'.out
                  · exact hall j (by omega)), bthen hbr hBW⟩
                case measure => simp [intOf]
              · have hv : Hid (r = e) := hr.out.symm.trans ((insE_hit hne.out hun.out 0 (by omega) hall (fun q => h00 (he'.out.symm.trans q))).trans he'.out)
                go_wp2
                go_ret
                exact ⟨ret_i hv.out.symm, bthen (bthen hbw hbr) hBW⟩
            · subst hk1
              obtain ⟨e, he⟩ : ∃ e, Hid (opE M f i i.b (a1 : Int) = e) := ⟨_, rfl⟩
              have he' : Hid (opE M f i (i.x 1) (lt i.op 1) = e) := by show opE M f i i.b (lt i.op 1) = e; rw [L1.out]; exact he.out
              have hp : (a1 : Int) = 112 → 0 ≤ i.b ∧ i.b < (M.fns.length : Int) := fun h => by have := p_room 1 hall (L1.out.trans h); simpa [MPr.pr] using this
              have hcall : ∀ wx, Below wr.heap.size wr wx → Calls Tryd.prog 75 #[M.val, f.val, i.val, .int .u8 (a1 : Int), .int .i64 i.b] wx _ := fun wx hx => checkOperand_any M f i i.b wx e (a1 : Int) (hLr.later hx) hw h0 h8 hp he
              clear he hp hLr
              obtain ⟨p0, p1, p2, p3, f0, f1, f2, f3, i0, i1, i2, i3, i4, x0, x1, x2, x3, _⟩ := keepA hbP.out hbF.out hbI'.out hbX.out (Below.refl _ wr)
              go_wp2_with fail
              go_region_held3 (fun w' => w'.cell? ⟨w.heap.size, 0, none⟩ = some (.slice M.va M.vars.length M.vcap) ∧ w'.cell? ⟨w.heap.size, 1, none⟩ = some (.int .i64 M.locks) ∧ w'.cell? ⟨w.heap.size, 2, none⟩ = some (.slice M.cha M.chans.length M.chcap) ∧ w'.cell? ⟨w.heap.size, 3, none⟩ = some (.slice M.fa M.fns.length M.fcap) ∧ w'.cell? ⟨w.heap.size + 1, 0, none⟩ = some (.int .i64 f.params) ∧ w'.cell? ⟨w.heap.size + 1, 1, none⟩ = some (.int .i64 f.regs) ∧ w'.cell? ⟨w.heap.size + 1, 2, none⟩ = some (.slice f.ca f.code.length f.ccap) ∧ w'.cell? ⟨w.heap.size + 1, 3, none⟩ = some (.slice f.sa f.sels.length f.scap) ∧ w'.cell? ⟨w.heap.size + 1 + 1, 0, none⟩ = some (.int .i64 i.op) ∧ w'.cell? ⟨w.heap.size + 1 + 1, 1, none⟩ = some (.int .i64 i.a) ∧ w'.cell? ⟨w.heap.size + 1 + 1, 2, none⟩ = some (.int .i64 i.b) ∧ w'.cell? ⟨w.heap.size + 1 + 1, 3, none⟩ = some (.int .i64 i.c) ∧ w'.cell? ⟨w.heap.size + 1 + 1, 4, none⟩ = some (.int .i64 i.n) ∧ w'.cell? ⟨A, 0, none⟩ = some (.int .i64 i.a) ∧ w'.cell? ⟨A, 1, none⟩ = some (.int .i64 i.b) ∧ w'.cell? ⟨A, 2, none⟩ = some (.int .i64 i.c) ∧ w'.cell? ⟨A, 3, none⟩ = some (.int .i64 i.n) ∧ Below wr.heap.size wr w') ((refine keepA hbP.out hbF.out hbI'.out hbX.out ?_; repeat (first | exact keepL (by assumption) | assumption | exact Below.refl _ _ | refine Below.drew ?_)))
                (first | (go_at_call 75; refine (hcall _ (by repeat (first | exact keepL (by assumption) | exact Below.refl _ _ | refine Below.drew ?_))).mono ?_; rintro e w' ⟨rfl, hb2⟩; have hBW : Below wr.heap.size wr w' := bthen (by repeat (first | exact keepL (by assumption) | exact Below.refl _ _ | refine Below.drew ?_)) hb2))
              by_cases h00 : e = 0
              · subst h00
                go_wp2
                go_roundw
                case rel => exact ⟨2, by omega, rfl, (fun j hj => by
                  by_cases hj' : j = 1
                  · subst hj'; exact he'.out
                  · exact hall j (by omega)), bthen hbr hBW⟩
                case measure => simp [intOf]
              · have hv : Hid (r = e) := hr.out.symm.trans ((insE_hit hne.out hun.out 1 (by omega) hall (fun q => h00 (he'.out.symm.trans q))).trans he'.out)
                go_wp2
                go_ret
                exact ⟨ret_i hv.out.symm, bthen (bthen hbw hbr) hBW⟩
            · subst hk2
              obtain ⟨e, he⟩ : ∃ e, Hid (opE M f i i.c (a2 : Int) = e) := ⟨_, rfl⟩
              have he' : Hid (opE M f i (i.x 2) (lt i.op 2) = e) := by show opE M f i i.c (lt i.op 2) = e; rw [L2.out]; exact he.out
              have hp : (a2 : Int) = 112 → 0 ≤ i.b ∧ i.b < (M.fns.length : Int) := fun h => by have := p_room 2 hall (L2.out.trans h); simpa [MPr.pr] using this
              have hcall : ∀ wx, Below wr.heap.size wr wx → Calls Tryd.prog 75 #[M.val, f.val, i.val, .int .u8 (a2 : Int), .int .i64 i.c] wx _ := fun wx hx => checkOperand_any M f i i.c wx e (a2 : Int) (hLr.later hx) hw h0 h8 hp he
              clear he hp hLr
              obtain ⟨p0, p1, p2, p3, f0, f1, f2, f3, i0, i1, i2, i3, i4, x0, x1, x2, x3, _⟩ := keepA hbP.out hbF.out hbI'.out hbX.out (Below.refl _ wr)
              go_wp2_with fail
              go_region_held3 (fun w' => w'.cell? ⟨w.heap.size, 0, none⟩ = some (.slice M.va M.vars.length M.vcap) ∧ w'.cell? ⟨w.heap.size, 1, none⟩ = some (.int .i64 M.locks) ∧ w'.cell? ⟨w.heap.size, 2, none⟩ = some (.slice M.cha M.chans.length M.chcap) ∧ w'.cell? ⟨w.heap.size, 3, none⟩ = some (.slice M.fa M.fns.length M.fcap) ∧ w'.cell? ⟨w.heap.size + 1, 0, none⟩ = some (.int .i64 f.params) ∧ w'.cell? ⟨w.heap.size + 1, 1, none⟩ = some (.int .i64 f.regs) ∧ w'.cell? ⟨w.heap.size + 1, 2, none⟩ = some (.slice f.ca f.code.length f.ccap) ∧ w'.cell? ⟨w.heap.size + 1, 3, none⟩ = some (.slice f.sa f.sels.length f.scap) ∧ w'.cell? ⟨w.heap.size + 1 + 1, 0, none⟩ = some (.int .i64 i.op) ∧ w'.cell? ⟨w.heap.size + 1 + 1, 1, none⟩ = some (.int .i64 i.a) ∧ w'.cell? ⟨w.heap.size + 1 + 1, 2, none⟩ = some (.int .i64 i.b) ∧ w'.cell? ⟨w.heap.size + 1 + 1, 3, none⟩ = some (.int .i64 i.c) ∧ w'.cell? ⟨w.heap.size + 1 + 1, 4, none⟩ = some (.int .i64 i.n) ∧ w'.cell? ⟨A, 0, none⟩ = some (.int .i64 i.a) ∧ w'.cell? ⟨A, 1, none⟩ = some (.int .i64 i.b) ∧ w'.cell? ⟨A, 2, none⟩ = some (.int .i64 i.c) ∧ w'.cell? ⟨A, 3, none⟩ = some (.int .i64 i.n) ∧ Below wr.heap.size wr w') ((refine keepA hbP.out hbF.out hbI'.out hbX.out ?_; repeat (first | exact keepL (by assumption) | assumption | exact Below.refl _ _ | refine Below.drew ?_)))
                (first | (go_at_call 75; refine (hcall _ (by repeat (first | exact keepL (by assumption) | exact Below.refl _ _ | refine Below.drew ?_))).mono ?_; rintro e w' ⟨rfl, hb2⟩; have hBW : Below wr.heap.size wr w' := bthen (by repeat (first | exact keepL (by assumption) | exact Below.refl _ _ | refine Below.drew ?_)) hb2))
              by_cases h00 : e = 0
              · subst h00
                go_wp2
                go_roundw
                case rel => exact ⟨3, by omega, rfl, (fun j hj => by
                  by_cases hj' : j = 2
                  · subst hj'; exact he'.out
                  · exact hall j (by omega)), bthen hbr hBW⟩
                case measure => simp [intOf]
              · have hv : Hid (r = e) := hr.out.symm.trans ((insE_hit hne.out hun.out 2 (by omega) hall (fun q => h00 (he'.out.symm.trans q))).trans he'.out)
                go_wp2
                go_ret
                exact ⟨ret_i hv.out.symm, bthen (bthen hbw hbr) hBW⟩
            · subst hk3
              obtain ⟨e, he⟩ : ∃ e, Hid (opE M f i i.n (a3 : Int) = e) := ⟨_, rfl⟩
              have he' : Hid (opE M f i (i.x 3) (lt i.op 3) = e) := by show opE M f i i.n (lt i.op 3) = e; rw [L3.out]; exact he.out
              have hp : (a3 : Int) = 112 → 0 ≤ i.b ∧ i.b < (M.fns.length : Int) := fun h => by have := p_room 3 hall (L3.out.trans h); simpa [MPr.pr] using this
              have hcall : ∀ wx, Below wr.heap.size wr wx → Calls Tryd.prog 75 #[M.val, f.val, i.val, .int .u8 (a3 : Int), .int .i64 i.n] wx _ := fun wx hx => checkOperand_any M f i i.n wx e (a3 : Int) (hLr.later hx) hw h0 h8 hp he
              clear he hp hLr
              obtain ⟨p0, p1, p2, p3, f0, f1, f2, f3, i0, i1, i2, i3, i4, x0, x1, x2, x3, _⟩ := keepA hbP.out hbF.out hbI'.out hbX.out (Below.refl _ wr)
              go_wp2_with fail
              go_region_held3 (fun w' => w'.cell? ⟨w.heap.size, 0, none⟩ = some (.slice M.va M.vars.length M.vcap) ∧ w'.cell? ⟨w.heap.size, 1, none⟩ = some (.int .i64 M.locks) ∧ w'.cell? ⟨w.heap.size, 2, none⟩ = some (.slice M.cha M.chans.length M.chcap) ∧ w'.cell? ⟨w.heap.size, 3, none⟩ = some (.slice M.fa M.fns.length M.fcap) ∧ w'.cell? ⟨w.heap.size + 1, 0, none⟩ = some (.int .i64 f.params) ∧ w'.cell? ⟨w.heap.size + 1, 1, none⟩ = some (.int .i64 f.regs) ∧ w'.cell? ⟨w.heap.size + 1, 2, none⟩ = some (.slice f.ca f.code.length f.ccap) ∧ w'.cell? ⟨w.heap.size + 1, 3, none⟩ = some (.slice f.sa f.sels.length f.scap) ∧ w'.cell? ⟨w.heap.size + 1 + 1, 0, none⟩ = some (.int .i64 i.op) ∧ w'.cell? ⟨w.heap.size + 1 + 1, 1, none⟩ = some (.int .i64 i.a) ∧ w'.cell? ⟨w.heap.size + 1 + 1, 2, none⟩ = some (.int .i64 i.b) ∧ w'.cell? ⟨w.heap.size + 1 + 1, 3, none⟩ = some (.int .i64 i.c) ∧ w'.cell? ⟨w.heap.size + 1 + 1, 4, none⟩ = some (.int .i64 i.n) ∧ w'.cell? ⟨A, 0, none⟩ = some (.int .i64 i.a) ∧ w'.cell? ⟨A, 1, none⟩ = some (.int .i64 i.b) ∧ w'.cell? ⟨A, 2, none⟩ = some (.int .i64 i.c) ∧ w'.cell? ⟨A, 3, none⟩ = some (.int .i64 i.n) ∧ Below wr.heap.size wr w') ((refine keepA hbP.out hbF.out hbI'.out hbX.out ?_; repeat (first | exact keepL (by assumption) | assumption | exact Below.refl _ _ | refine Below.drew ?_)))
                (first | (go_at_call 75; refine (hcall _ (by repeat (first | exact keepL (by assumption) | exact Below.refl _ _ | refine Below.drew ?_))).mono ?_; rintro e w' ⟨rfl, hb2⟩; have hBW : Below wr.heap.size wr w' := bthen (by repeat (first | exact keepL (by assumption) | exact Below.refl _ _ | refine Below.drew ?_)) hb2))
              by_cases h00 : e = 0
              · subst h00
                go_wp2
                go_roundw
                case rel => exact ⟨4, by omega, rfl, (fun j hj => by
                  by_cases hj' : j = 3
                  · subst hj'; exact he'.out
                  · exact hall j (by omega)), bthen hbr hBW⟩
                case measure => simp [intOf]
              · have hv : Hid (r = e) := hr.out.symm.trans ((insE_hit hne.out hun.out 3 (by omega) hall (fun q => h00 (he'.out.symm.trans q))).trans he'.out)
                go_wp2
                go_ret
                exact ⟨ret_i hv.out.symm, bthen (bthen hbw hbr) hBW⟩
        have hk0 : k = 0 ∨ k = 1 ∨ k = 2 ∨ k = 3 := by omega
        rcases hk0 with hk0 | hk1 | hk2 | hk3
        · subst hk0
          by_cases h45 : (a0 : Int) = 45
          · by_cases hx0 : i.a = 0
            · go_wp2
              go_round
              case rel => exact ⟨1, by omega, rfl, fun j hj q => by
                by_cases hj' : j = 0
                · subst hj'; exact q.2 hx0
                · exact hall j (by omega) q⟩
              case measure => simp [intOf]
            · have hv : Hid (r = 34) := hr.out.symm.trans (insE_unused hne.out ((unused_iff i).mpr ⟨0, by omega, L0.out.trans h45, hx0⟩))
              go_wp2
              go_ret
              exact ⟨ret_i hv.out.symm, hbw⟩
          · go_wp2
            go_round
            case rel => exact ⟨1, by omega, rfl, fun j hj q => by
              by_cases hj' : j = 0
              · subst hj'; exact h45 (L0.out.symm.trans q.1)
              · exact hall j (by omega) q⟩
            case measure => simp [intOf]
        · subst hk1
          by_cases h45 : (a1 : Int) = 45
          · by_cases hx0 : i.b = 0
            · go_wp2
              go_round
              case rel => exact ⟨2, by omega, rfl, fun j hj q => by
                by_cases hj' : j = 1
                · subst hj'; exact q.2 hx0
                · exact hall j (by omega) q⟩
              case measure => simp [intOf]
            · have hv : Hid (r = 34) := hr.out.symm.trans (insE_unused hne.out ((unused_iff i).mpr ⟨1, by omega, L1.out.trans h45, hx0⟩))
              go_wp2
              go_ret
              exact ⟨ret_i hv.out.symm, hbw⟩
          · go_wp2
            go_round
            case rel => exact ⟨2, by omega, rfl, fun j hj q => by
              by_cases hj' : j = 1
              · subst hj'; exact h45 (L1.out.symm.trans q.1)
              · exact hall j (by omega) q⟩
            case measure => simp [intOf]
        · subst hk2
          by_cases h45 : (a2 : Int) = 45
          · by_cases hx0 : i.c = 0
            · go_wp2
              go_round
              case rel => exact ⟨3, by omega, rfl, fun j hj q => by
                by_cases hj' : j = 2
                · subst hj'; exact q.2 hx0
                · exact hall j (by omega) q⟩
              case measure => simp [intOf]
            · have hv : Hid (r = 34) := hr.out.symm.trans (insE_unused hne.out ((unused_iff i).mpr ⟨2, by omega, L2.out.trans h45, hx0⟩))
              go_wp2
              go_ret
              exact ⟨ret_i hv.out.symm, hbw⟩
          · go_wp2
            go_round
            case rel => exact ⟨3, by omega, rfl, fun j hj q => by
              by_cases hj' : j = 2
              · subst hj'; exact h45 (L2.out.symm.trans q.1)
              · exact hall j (by omega) q⟩
            case measure => simp [intOf]
        · subst hk3
          by_cases h45 : (a3 : Int) = 45
          · by_cases hx0 : i.n = 0
            · go_wp2
              go_round
              case rel => exact ⟨4, by omega, rfl, fun j hj q => by
                by_cases hj' : j = 3
                · subst hj'; exact q.2 hx0
                · exact hall j (by omega) q⟩
              case measure => simp [intOf]
            · have hv : Hid (r = 34) := hr.out.symm.trans (insE_unused hne.out ((unused_iff i).mpr ⟨3, by omega, L3.out.trans h45, hx0⟩))
              go_wp2
              go_ret
              exact ⟨ret_i hv.out.symm, hbw⟩
          · go_wp2
            go_round
            case rel => exact ⟨4, by omega, rfl, fun j hj q => by
              by_cases hj' : j = 3
              · subst hj'; exact h45 (L3.out.symm.trans q.1)
              · exact hall j (by omega) q⟩
            case measure => simp [intOf]
end Go.Proofs.YtlcljdldhajkiaaDoor.pg
/- A program that came in, opened, with its sizes: none of its lists takes more bytes than a machine has. -/
namespace Go.Proofs.YtlcljdldhajkiaaDoor.pg
open Go.ChangeShapes Go.WideShapes Go.ChangeAt Go.RowKit
set_option linter.unusedVariables false
set_option maxRecDepth 100000
def MSel.sz (s : MSel) : Prop := s.cases.length * 32 ≤ reachBytes
def MFn.sz (f : MFn) : Prop := f.code.length * 40 ≤ reachBytes ∧ f.sels.length * 32 ≤ reachBytes ∧ ∀ s ∈ f.sels, s.sz
def MPr.sz (p : MPr) : Prop := p.vars.length * 16 ≤ reachBytes ∧ p.chans.length * 8 ≤ reachBytes ∧ p.fns.length * 64 ≤ reachBytes ∧ ∀ f ∈ p.fns, f.sz
section
variable {H : Type} {enc : TypeId × Value → H} {P : Program} {w : World} {base : Nat} {spare : Nat → Bool} {held : Bool}
def Sz (P : Program) (t : TypeId) (d : DataW H) : Prop := ∀ n ∈ d.weights P t, n ≤ reachBytes
theorem mem_weightsAll {e : TypeId} {l : List (DataW H)} {d : DataW H} (hd : d ∈ l) (n : Nat) (hn : n ∈ d.weights P e) : n ∈ DataW.weightsAll P e l := by
  induction l with
  | nil => simp at hd
  | cons x t ih =>
    simp only [DataW.weightsAll, List.mem_append]
    rcases List.mem_cons.mp hd with rfl | hd
    · exact .inl hn
    · exact .inr (ih hd)
/-- A list, opened: its elements' cells are as the elements' own readings tell. -/
theorem rows_sz {α : Type} (dflt : α) {t e : TypeId} {k fuel : Nat} {a : Option Addr} {len cap : Nat} {x : DataW H × List MemPlace} (C : α → List Value) (Q : α → Prop) (ht : P.underlying t = some (.slice e)) (hk : P.cellsOf e = k) (hk0 : 0 < k)
    (hel : ∀ n cs y, cs.length = k → DataW.trod enc P w base spare held n e cs = some y → Sz P e y.1 → ∃ x, cs = C x ∧ Q x)
    (h : DataW.trod enc P w base spare held fuel t [.slice a len cap] = some x) (hs : Sz P t x.1) : ∃ l : List α, l.length = len ∧ Rows w k a cap (l.map C) ∧ (∀ x ∈ l, Q x) ∧ len * P.bytesOf e ≤ reachBytes := by
  rcases Go.Deep.open_slice ht h with ⟨hcs, _⟩ | ⟨ad, len', cap', m, n, D, Pl, hcs, _, hl, hm, hmm, hxd, hx⟩
  · simp only [List.cons.injEq, Value.slice.injEq, and_true] at hcs
    obtain ⟨rfl, rfl, rfl⟩ := hcs
    exact ⟨[], rfl, ⟨by simp, by simp, by simp, .inl rfl⟩, by simp, by simp⟩
  · simp only [List.cons.injEq, Value.slice.injEq, and_true] at hcs
    obtain ⟨rfl, rfl, rfl⟩ := hcs
    unfold maxLen at hm
    have hlm : len ≤ m := by rw [hmm]; split <;> omega
    subst hxd
    have hs1 : (((List.range len).map D).length + ((List.range (m - len)).map fun j => D (len + j)).length) * P.bytesOf e ≤ reachBytes := hs _ (by
      simp only [DataW.weights, ht]; exact List.mem_cons_self)
    have hs2 : ∀ i, i < len → Sz P e (D i) := fun i hi n hn => hs n (by
      simp only [DataW.weights, ht]
      refine List.mem_cons_of_mem _ (List.mem_append_left _ (mem_weightsAll (d := D i) ?_ n hn))
      simp only [List.mem_map, List.mem_range]
      exact ⟨i, hi, rfl⟩)
    have each : ∀ i, i < len → ∃ y : α, Q y ∧ (C y).length = k ∧ ∀ j u, (C y)[j]? = some u → w.cell? (ad.add (i * k + j)) = some u := fun i hi => by
      obtain ⟨cs', h1, h2⟩ := hx i (by omega)
      rw [hk] at h1
      obtain ⟨_, hlen, hcell⟩ := World.cells?_some h1
      obtain ⟨y, rfl, hQ⟩ := hel n cs' _ hlen h2 (hs2 i hi)
      refine ⟨y, hQ, hlen, fun j u hj => ?_⟩
      have hjk : j < k := by have := (List.getElem?_eq_some_iff.mp hj).1; omega
      have := hcell j hjk
      rw [Go.Deep.add_add] at this
      rw [this, hj]
    have inh : Inhabited α := ⟨dflt⟩
    obtain ⟨f, hf⟩ := Go.Deep.choose_lt each
    refine ⟨(List.range len).map f, by simp, ⟨by simpa using hl, by omega, by simp, ?_⟩, fun y hy => ?_, ?_⟩
    · by_cases h0 : len = 0
      · subst h0; exact .inl rfl
      right
      obtain ⟨b, off, spot⟩ := ad
      obtain ⟨_, hl0, hc0⟩ := hf 0 (by omega)
      have hcell0 : w.cell? ((⟨b, off, spot⟩ : Addr).add (0 * k + 0)) = some ((C (f 0))[0]'(by omega)) := hc0 0 _ (List.getElem?_eq_getElem (by omega))
      have hs : spot = none := by simpa [Addr.add] using World.cell?_spot hcell0
      subst hs
      rw [add_none] at hcell0
      refine ⟨b, off, rfl, World.block_lt_of_cell? _ _ hcell0, fun i row hi => ?_⟩
      simp only [List.map_map, List.getElem?_map, Option.map_eq_some_iff] at hi
      obtain ⟨i', hi', rfl⟩ := hi
      have hil : i < len ∧ i' = i := by
        have h1 := (List.getElem?_eq_some_iff.mp hi').1
        have h2 := (List.getElem?_eq_some_iff.mp hi').2
        simp at h1 h2
        exact ⟨h1, h2.symm⟩
      obtain ⟨hil, rfl⟩ := hil
      obtain ⟨_, h1, h2⟩ := hf i' hil
      exact ⟨h1, fun j u hj => by rw [← add_none]; exact h2 j u hj⟩
    · simp only [List.mem_map, List.mem_range] at hy
      obtain ⟨i, hi, rfl⟩ := hy
      exact (hf i hi).1
    · have := hs1
      simp only [List.length_map, List.length_range] at this
      exact Nat.le_trans (Nat.mul_le_mul_right _ (Nat.le_add_right _ _)) this
/-- A field of one cell. -/
theorem field_sz {t : TypeId} {fs : Array Field} {fuel : Nat} {cs : List Value} {x : DataW H × List MemPlace} (ht : P.underlying t = some (.struct fs)) (h : DataW.trod enc P w base spare held fuel t cs = some x)
    (i : Nat) (f : Field) (hi : fs[i]? = some f) (ho : f.offset = i) (hc : P.cellsOf f.type = 1) (hl : i < cs.length) (hs : Sz P t x.1) : ∃ v y n, cs[i]? = some v ∧ DataW.trod enc P w base spare held n f.type [v] = some y ∧ Sz P f.type y.1 := by
  obtain ⟨xs, n, _, hxd, _, hlen, hf⟩ := DataW.trod_struct ht h
  have h1 := hf i f hi
  have hlt : i < xs.length := by rw [hlen]; exact (Array.getElem?_eq_some_iff.mp hi).1
  rw [ho, hc, List.getElem?_eq_getElem hlt] at h1
  refine ⟨cs[i], xs[i], n, List.getElem?_eq_getElem hl, ?_, fun m hm => hs m ?_⟩
  rotate_left
  · rw [hxd]
    simp only [DataW.weights, ht]
    exact DataW.weights_mem_each (j := i) (t := f.type) (d := (xs[i]).1) (by simp [hi]) (by simp [hlt]) m hm
  rw [← h1]
  congr 1
  rw [List.drop_eq_getElem_cons hl]
  rfl
end
section
variable {H : Type} {enc : TypeId × Value → H} {w : World} {base : Nat} {spare : Nat → Bool} {held : Bool}
theorem sel_sz {n : Nat} {cs : List Value} {y : DataW H × List MemPlace} (hl : cs.length = 2) (h : DataW.trod enc Tryd.prog w base spare held n 76 cs = some y) (hs : Sz Tryd.prog 76 y.1) : ∃ x : MSel, cs = x.cells ∧ x.lies w ∧ x.sz := by
  obtain ⟨v0, _, _, e0, t0, s0⟩ := field_sz Tryd.underlying76 h 0 _ rfl rfl (by kernel_rfl) (by omega) hs
  obtain ⟨v1, _, _, e1, t1, s1⟩ := field_sz Tryd.underlying76 h 1 _ rfl rfl (by kernel_rfl) (by omega) hs
  obtain ⟨a, len, cap, rfl⟩ := slice_in Tryd.underlying74 t0
  obtain ⟨z1, rfl, b1⟩ := int_in Tryd.underlying3 t1
  obtain ⟨l, rfl, hr, hq, hb⟩ := rows_sz (k := 4) ⟨false, 0, 0, 0⟩ Cas.cells Cas.wf Tryd.underlying74 (by kernel_rfl) (by omega) (fun n cs y hl h _ => cas_in hl h) t0 s0
  exact ⟨⟨a, cap, l, z1⟩, list2 hl e0 e1, ⟨hr, hq, b1⟩, hb⟩
theorem fn_sz {n : Nat} {cs : List Value} {y : DataW H × List MemPlace} (hl : cs.length = 4) (h : DataW.trod enc Tryd.prog w base spare held n 62 cs = some y) (hs : Sz Tryd.prog 62 y.1) : ∃ x : MFn, cs = x.cells ∧ x.lies w ∧ x.sz := by
  obtain ⟨v0, _, _, e0, t0, s0⟩ := field_sz Tryd.underlying62 h 0 _ rfl rfl (by kernel_rfl) (by omega) hs
  obtain ⟨v1, _, _, e1, t1, s1⟩ := field_sz Tryd.underlying62 h 1 _ rfl rfl (by kernel_rfl) (by omega) hs
  obtain ⟨v2, _, _, e2, t2, s2⟩ := field_sz Tryd.underlying62 h 2 _ rfl rfl (by kernel_rfl) (by omega) hs
  obtain ⟨v3, _, _, e3, t3, s3⟩ := field_sz Tryd.underlying62 h 3 _ rfl rfl (by kernel_rfl) (by omega) hs
  obtain ⟨z0, rfl, b0⟩ := int_in Tryd.underlying3 t0
  obtain ⟨z1, rfl, b1⟩ := int_in Tryd.underlying3 t1
  obtain ⟨a2, len2, cap2, rfl⟩ := slice_in Tryd.underlying59 t2
  obtain ⟨a3, len3, cap3, rfl⟩ := slice_in Tryd.underlying60 t3
  obtain ⟨l2, rfl, hr2, hq2, hb2⟩ := rows_sz (k := 5) ⟨0, 0, 0, 0, 0⟩ Ins.cells Ins.wf Tryd.underlying59 (by kernel_rfl) (by omega) (fun n cs y hl h _ => ins_in hl h) t2 s2
  obtain ⟨l3, rfl, hr3, hq3, hb3⟩ := rows_sz (k := 2) ⟨none, 0, [], 0⟩ MSel.cells (fun s => s.lies w ∧ s.sz) Tryd.underlying60 (by kernel_rfl) (by omega) (fun n cs y hl h hs => sel_sz hl h hs) t3 s3
  exact ⟨⟨z0, z1, a2, cap2, l2, a3, cap3, l3⟩, list4 hl e0 e1 e2 e3, ⟨hr2, hr3, hq2, fun s hs => (hq3 s hs).1, b0, b1⟩, hb2, hb3, fun s hs => (hq3 s hs).2⟩
/-- A program, opened. -/
theorem prog_sz {n : Nat} {cs : List Value} {y : DataW H × List MemPlace} (h : DataW.trod enc Tryd.prog w base spare held n 26 cs = some y) (hs : Sz Tryd.prog 26 y.1) : ∃ x : MPr, Value.agg cs.toArray = x.val ∧ x.lies w ∧ x.sz := by
  have hl : cs.length = 4 := by
    obtain ⟨xs, n, _, _, hl, _⟩ := DataW.trod_struct Tryd.underlying26 h
    rw [hl]
    kernel_rfl
  obtain ⟨v0, _, _, e0, t0, s0⟩ := field_sz Tryd.underlying26 h 0 _ rfl rfl (by kernel_rfl) (by omega) hs
  obtain ⟨v1, _, _, e1, t1, s1⟩ := field_sz Tryd.underlying26 h 1 _ rfl rfl (by kernel_rfl) (by omega) hs
  obtain ⟨v2, _, _, e2, t2, s2⟩ := field_sz Tryd.underlying26 h 2 _ rfl rfl (by kernel_rfl) (by omega) hs
  obtain ⟨v3, _, _, e3, t3, s3⟩ := field_sz Tryd.underlying26 h 3 _ rfl rfl (by kernel_rfl) (by omega) hs
  obtain ⟨z1, rfl, b1⟩ := int_in Tryd.underlying3 t1
  obtain ⟨a0, len0, cap0, rfl⟩ := slice_in Tryd.underlying22 t0
  obtain ⟨a2, len2, cap2, rfl⟩ := slice_in Tryd.underlying23 t2
  obtain ⟨a3, len3, cap3, rfl⟩ := slice_in Tryd.underlying24 t3
  obtain ⟨l0, rfl, hr0, hq0, hb0⟩ := rows_sz (k := 2) ⟨false, 0⟩ Vr.cells (fun x => I64 x.init) Tryd.underlying22 (by kernel_rfl) (by omega) (fun n cs y hl h _ => vr_in hl h) t0 s0
  obtain ⟨l2, rfl, hr2, hq2, hb2⟩ := rows_sz (k := 1) 0 chCells I64 Tryd.underlying23 (by kernel_rfl) (by omega) (fun n cs y hl h _ => by
    obtain ⟨v, rfl⟩ := List.length_eq_one_iff.mp hl
    obtain ⟨z, rfl, hz⟩ := int_in Tryd.underlying3 h
    exact ⟨z, rfl, hz⟩) t2 s2
  obtain ⟨l3, rfl, hr3, hq3, hb3⟩ := rows_sz (k := 4) ⟨0, 0, none, 0, [], none, 0, []⟩ MFn.cells (fun f => f.lies w ∧ f.sz) Tryd.underlying24 (by kernel_rfl) (by omega) (fun n cs y hl h hs => fn_sz hl h hs) t3 s3
  refine ⟨⟨a0, cap0, l0, z1, a2, cap2, l2, a3, cap3, l3⟩, ?_, ⟨hr0, hr2, hr3, hq0, b1, hq2, fun f hf => (hq3 f hf).1⟩, hb0, hb2, hb3, fun f hf => (hq3 f hf).2⟩
  rw [list4 hl e0 e1 e2 e3]
end
end Go.Proofs.YtlcljdldhajkiaaDoor.pg
