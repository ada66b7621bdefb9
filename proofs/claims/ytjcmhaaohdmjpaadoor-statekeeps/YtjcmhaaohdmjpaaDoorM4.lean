/- The contracts of package prog's looks at parameters of a spawn, and at whole instructions. -/
import Derived.Test.YtjcmhaaohdmjpaaDoorM3
import Derived.Deep.RegionHeld3
import Derived.Deep.DrawnRows
import Derived.Test.YtjcmhaaohdmjpaaDoorM2
import Derived.Deep.DeepCutAuto
namespace Go.Proofs.YtjcmhaaohdmjpaaDoor.pg
open Go.ChangeShapes Go.WideShapes Go.ChangeAt Go.RowKit
set_option linter.unusedVariables false
set_option linter.unusedSimpArgs false
set_option maxRecDepth 100000
section
variable (M : MPr) (f : MFn) (i : Ins) (x : Int) (w : World) (r : Int) (l : Int)
theorem op_p (k : Nat) (y : MFn) (hk : i.b = (k : Int)) (hy : M.fns[k]? = some y) (hl : M.lies w) (hw : i.wf) (h0 : 0 ≤ f.regs) (h8 : f.regs ≤ 8) (hr : Hid (opE M f i x 112 = r)) :
    Calls Tryd.prog 66 #[M.val, f.val, i.val, .int .u8 112, .int .i64 x] w fun e w' => e = .returned (.int .i64 r) ∧ Below w.heap.size w w' := by
  have hlt : k < M.fns.length := (List.getElem?_eq_some_iff.mp hy).1
  have hp : M.pr.par i.b = y.params := by rw [hk]; simp [Pr.par, MPr.pr, MFn.fn, hy]
  have hb1 := boxed w (objP M)
  have hb2 := boxed (w.alloc (objP M)) (objF f)
  have hb3 := boxed ((w.alloc (objP M)).alloc (objF f)) (objI i)
  have hb := boxed3 w (objP M) (objF f) (objI i)
  obtain ⟨p0, p1, p2, p3⟩ := ((boxP_new w M).later hb2).later hb3
  have bF := (boxF_new (w.alloc (objP M)) f).later hb3
  have bI := boxI_new ((w.alloc (objP M)).alloc (objF f)) i
  simp only [World.size_alloc] at bF bI
  obtain ⟨f0, f1, f2, f3⟩ := bF
  obtain ⟨i0, i1, i2, i3, i4⟩ := bI
  obtain ⟨b, o, hix, hbl, c0, c1, c2, c3⟩ := fn_ix (hl.later hb).2.2.1 k y hy
  rw [← hk] at hix
  have hyp : I64 y.params := (hl.2.2.2.2.2.2 y (List.mem_of_getElem? hy)).2.2.2.2.1
  have hic : I64 i.c := hw.2.2.2.1
  obtain ⟨rb, hrb⟩ : ∃ rb, Hid (decide (roomP y.params i.c f.regs) = rb) := ⟨_, rfl⟩
  have hv : Hid (r = if rb = true then 0 else 35) := hr.out.symm.trans (by
    simp only [opE, opndE, Int.reduceEq, false_and, false_or, or_false, true_or, or_true, if_false, if_true, hp]
    rw [← hrb.out]
    simp only [decide_eq_true_eq])
  have hR : ∀ wx, Calls Tryd.prog 85 #[.int .i64 y.params, .int .i64 i.c, .int .i64 f.regs] wx _ := fun wx => roomFor_any y.params i.c f.regs wx hyp hic h0 h8 rb hrb
  clear hb1 hb2 hb3 hl hw hy hp hyp hic hr
  have hbI : 0 ≤ i.b ∧ i.b < (M.fns.length : Int) := by omega
  clear hk hlt
  go_enter Tryd.func66, Tryd.ntmps66
  go_wp2_with fail
  generalize ((w.alloc (objP M)).alloc (objF f)).alloc (objI i) = W at *
  cases rb with
  | true =>
    go_quiet (first | (go_at_call 85; exact Calls.quiet_of_same (hR _)) | (go_at_call 84; exact Calls.quiet_of_same (unless_t _ _)))
    go_wp2
    go_ret
    exact ⟨ret_i hv.out.symm, below_drewN hb _⟩
  | false =>
    go_quiet (first | (go_at_call 85; exact Calls.quiet_of_same (hR _)) | (go_at_call 84; exact Calls.quiet_of_same (unless_f _ _)))
    go_wp2
    go_ret
    exact ⟨ret_i hv.out.symm, below_drewN hb _⟩
theorem op_else (h1 : ¬ l = 111) (h2 : ¬ l = 114) (h3 : ¬ l = 119) (h4 : ¬ l = 112) (h5 : ¬ l = 97) (h6 : ¬ l = 118) (h7 : ¬ l = 108) (h8 : ¬ l = 99) (h9 : ¬ l = 115) (h10 : ¬ l = 102) (h11 : ¬ l = 116) (hr : Hid (opE M f i x l = r)) :
    Calls Tryd.prog 66 #[M.val, f.val, i.val, .int .u8 l, .int .i64 x] w fun e w' => e = .returned (.int .i64 r) ∧ Below w.heap.size w w' := by
  have hv : Hid (r = 0) := hr.out.symm.trans (by simp only [opE, opndE, h1, h2, h3, h4, h5, h6, h7, h8, h9, h10, h11, false_and, or_self, if_false])
  go_enter Tryd.func66, Tryd.ntmps66
  go_wp2
  go_ret
  exact ⟨ret_i hv.out.symm, boxed3 _ _ _ _⟩
/-- Every operand, whatever its letter. -/
theorem checkOperand_any (hl : M.lies w) (hw : i.wf) (h0 : 0 ≤ f.regs) (h8 : f.regs ≤ 8) (hp : l = 112 → 0 ≤ i.b ∧ i.b < (M.fns.length : Int)) (hr : Hid (opE M f i x l = r)) :
    Calls Tryd.prog 66 #[M.val, f.val, i.val, .int .u8 l, .int .i64 x] w fun e w' => e = .returned (.int .i64 r) ∧ Below w.heap.size w w' := by
  by_cases l1 : l = 111
  · subst l1
    by_cases hx : x = -1
    · exact op_o_none M f i x w r hx hr
    by_cases h : 0 ≤ x ∧ x < f.regs
    · exact op_o_t M f i x w r hx h hr
    · exact op_o_f M f i x w r hx h hr
  by_cases l2 : l = 114
  · subst l2
    by_cases h : 0 ≤ x ∧ x < f.regs
    · exact op_r_t M f i x w r h hr
    · exact op_r_f M f i x w r h hr
  by_cases l3 : l = 119
  · subst l3
    by_cases h : 0 ≤ x ∧ x < f.regs
    · exact op_w_t M f i x w r h hr
    · exact op_w_f M f i x w r h hr
  by_cases l4 : l = 112
  · subst l4
    have hb := hp rfl
    obtain ⟨y, hy, _⟩ := get_lt M.fns i.b.toNat (by omega)
    exact op_p M f i x w r i.b.toNat y (by omega) hy hl hw h0 h8 hr
  by_cases l5 : l = 97
  · subst l5
    by_cases h : 0 ≤ x ∧ x < (M.vars.length : Int)
    · obtain ⟨y, hy, _⟩ := get_lt M.vars x.toNat (by omega)
      exact op_a_t M f i x w r x.toNat y (by omega) hy hl hr
    · exact op_a_f M f i x w r h hr
  by_cases l6 : l = 118
  · subst l6
    by_cases h : 0 ≤ x ∧ x < (M.vars.length : Int)
    · exact op_v_t M f i x w r h hr
    · exact op_v_f M f i x w r h hr
  by_cases l7 : l = 108
  · subst l7
    by_cases h : 0 ≤ x ∧ x < M.locks
    · exact op_l_t M f i x w r h hr
    · exact op_l_f M f i x w r h hr
  by_cases l8 : l = 99
  · subst l8
    by_cases h : 0 ≤ x ∧ x < (M.chans.length : Int)
    · exact op_c_t M f i x w r h hr
    · exact op_c_f M f i x w r h hr
  by_cases l9 : l = 115
  · subst l9
    by_cases h : 0 ≤ x ∧ x < (f.sels.length : Int)
    · exact op_s_t M f i x w r h hr
    · exact op_s_f M f i x w r h hr
  by_cases l10 : l = 102
  · subst l10
    by_cases h : 0 ≤ x ∧ x < (M.fns.length : Int)
    · exact op_f_t M f i x w r h hr
    · exact op_f_f M f i x w r h hr
  by_cases l11 : l = 116
  · subst l11
    by_cases h : 0 ≤ x ∧ x < (f.code.length : Int)
    · exact op_t_t M f i x w r h hr
    · exact op_t_f M f i x w r h hr
  exact op_else M f i x w r l l1 l2 l3 l4 l5 l6 l7 l8 l9 l10 l11 hr
end
/-- The form that is read is the form that is meant. -/
theorem frm_form (op : Int) : prog.frm op = ⟨((formOf op).map fun x => UInt8.ofNat x.toNat).toArray⟩ := by
  by_cases h : 0 ≤ op ∧ op < 66
  · obtain ⟨n, rfl⟩ : ∃ n : Nat, op = (n : Int) := ⟨op.toNat, by omega⟩
    have key : ∀ n : Fin 66, (prog.frm ((n.val : Nat) : Int)).data.toList = (formOf ((n.val : Nat) : Int)).map fun x => UInt8.ofNat x.toNat := by decide
    have := key ⟨n, by omega⟩
    apply ByteArray.ext
    rw [← this]
  · have h1 : formOf op = [] := by
      unfold formOf
      repeat rw [if_neg (by omega)]
    rw [h1]
    unfold prog.frm
    by_cases h2 : op < 0
    · rw [if_pos h2]; rfl
    · rw [if_neg h2, if_neg (by omega), if_neg (by omega), if_neg (by omega)]; rfl
end Go.Proofs.YtjcmhaaohdmjpaaDoor.pg
/- Forms and instructions, as plain mathematics. -/
namespace Go.Proofs.YtjcmhaaohdmjpaaDoor.pg
set_option linter.unusedVariables false
theorem formOf_big (op : Int) (h : ¬ (0 ≤ op ∧ op < 66)) : formOf op = [] := by
  unfold formOf
  repeat rw [if_neg (by omega)]
/-- A form has four letters, each a byte, or none at all. -/
theorem formOf_four (op : Int) : formOf op = [] ∨ ∃ a b c d : Nat, formOf op = [(a : Int), (b : Int), (c : Int), (d : Int)] ∧ a < 256 ∧ b < 256 ∧ c < 256 ∧ d < 256 := by
  by_cases h : 0 ≤ op ∧ op < 66
  · obtain ⟨n, rfl⟩ : ∃ n : Nat, op = (n : Int) := ⟨op.toNat, by omega⟩
    have key : ∀ n : Fin 66, formOf ((n.val : Nat) : Int) = [] ∨ ((formOf ((n.val : Nat) : Int)).length = 4 ∧ ∀ x ∈ formOf ((n.val : Nat) : Int), 0 ≤ x ∧ x < 256) := by decide
    rcases key ⟨n, by omega⟩ with h | ⟨h1, h2⟩
    · exact .inl h
    · right
      simp only at h1 h2
      match hf : formOf (n : Int), h1 with
      | [a, b, c, d], _ =>
        rw [hf] at h2
        have ha := h2 a (by simp)
        have hb := h2 b (by simp)
        have hc := h2 c (by simp)
        have hd := h2 d (by simp)
        exact ⟨a.toNat, b.toNat, c.toNat, d.toNat, by rw [Int.toNat_of_nonneg ha.1, Int.toNat_of_nonneg hb.1, Int.toNat_of_nonneg hc.1, Int.toNat_of_nonneg hd.1], by omega, by omega, by omega, by omega⟩
  · exact .inl (formOf_big op h)
/-- Where the letter p stands: behind the letter f. -/
theorem p_where (op : Int) (k : Nat) (h : lt op k = 112) : k = 2 ∧ lt op 1 = 102 := by
  by_cases ho : 0 ≤ op ∧ op < 66
  · obtain ⟨n, rfl⟩ : ∃ n : Nat, op = (n : Int) := ⟨op.toNat, by omega⟩
    have key : ∀ n : Fin 66, (∀ k : Fin 4, lt ((n.val : Nat) : Int) k.val = 112 → k.val = 2 ∧ lt ((n.val : Nat) : Int) 1 = 102) ∧ (formOf ((n.val : Nat) : Int)).length ≤ 4 := by decide
    have k4 : k < 4 := by
      have h4 := (key ⟨n, by omega⟩).2
      simp only at h4
      apply Classical.byContradiction
      intro hk
      unfold lt at h
      rw [List.getD_eq_getElem?_getD, List.getElem?_eq_none (by omega)] at h
      simp at h
    exact (key ⟨n, by omega⟩).1 ⟨k, k4⟩ h
  · unfold lt at h
    rw [formOf_big op ho] at h
    simp at h
theorem insE_op {r : Prop} [Decidable r] {P : Pr} {f : Fn} {i : Ins} (h : formOf i.op = []) : insE r P f i = 33 := by unfold insE; rw [if_neg (fun q => q h)]
theorem unused_iff (i : Ins) : unused i ↔ ∃ j, j < 4 ∧ lt i.op j = 45 ∧ i.x j ≠ 0 := by
  constructor
  · rintro (h | h | h | h)
    · exact ⟨0, by omega, h⟩
    · exact ⟨1, by omega, h⟩
    · exact ⟨2, by omega, h⟩
    · exact ⟨3, by omega, h⟩
  · rintro ⟨j, hj, h⟩
    match j, hj, h with
    | 0, _, h => exact .inl h
    | 1, _, h => exact .inr (.inl h)
    | 2, _, h => exact .inr (.inr (.inl h))
    | 3, _, h => exact .inr (.inr (.inr h))
theorem insE_unused {r : Prop} [Decidable r] {P : Pr} {f : Fn} {i : Ins} (h : formOf i.op ≠ []) (hu : unused i) : insE r P f i = 34 := by unfold insE; rw [if_pos h, if_pos hu]
/-- The first error of four. -/
theorem fst4_hit (g : Nat → Int) (k : Nat) (hk : k < 4) (h : ∀ j, j < k → g j = 0) (hx : g k ≠ 0) : fst4 (g 0) (g 1) (g 2) (g 3) = g k := by
  unfold fst4
  match k, hk with
  | 0, _ => rw [if_neg hx]
  | 1, _ => rw [if_pos (h 0 (by omega)), if_neg hx]
  | 2, _ => rw [if_pos (h 0 (by omega)), if_pos (h 1 (by omega)), if_neg hx]
  | 3, _ => rw [if_pos (h 0 (by omega)), if_pos (h 1 (by omega)), if_pos (h 2 (by omega))]
theorem insE_hit {r : Prop} [Decidable r] {P : Pr} {f : Fn} {i : Ins} (h : formOf i.op ≠ []) (hu : ¬ unused i) (k : Nat) (hk : k < 4) (hb : ∀ j, j < k → opndE r P f (lt i.op j) (i.x j) = 0) (hx : opndE r P f (lt i.op k) (i.x k) ≠ 0) :
    insE r P f i = opndE r P f (lt i.op k) (i.x k) := by
  unfold insE; rw [if_pos h, if_neg hu]
  exact fst4_hit (fun j => opndE r P f (lt i.op j) (i.x j)) k hk hb hx
theorem insE_ok {r : Prop} [Decidable r] {P : Pr} {f : Fn} {i : Ins} (h : formOf i.op ≠ []) (hu : ¬ unused i) (hb : ∀ j, j < 4 → opndE r P f (lt i.op j) (i.x j) = 0) : insE r P f i = 0 := by
  unfold insE fst4; rw [if_pos h, if_neg hu]
  have h0 := hb 0 (by omega)
  have h1 := hb 1 (by omega)
  have h2 := hb 2 (by omega)
  have h3 := hb 3 (by omega)
  simp only [Ins.x] at h0 h1 h2 h3
  rw [if_pos h0, if_pos h1, if_pos h2, h3]
end Go.Proofs.YtjcmhaaohdmjpaaDoor.pg
/- The contract of package prog's look at an instruction. -/
namespace Go.Proofs.YtjcmhaaohdmjpaaDoor.pg
open Go.ChangeShapes Go.WideShapes Go.ChangeAt Go.RowKit
set_option linter.unusedVariables false
set_option linter.unusedSimpArgs false
set_option maxRecDepth 100000
attribute [local go_sem ↓] Go.wp_at_zero Go.wp_at_succ
/-- What lies in the box of the four operands. -/
def BoxX (w : World) (B : Nat) (x : Ins) : Prop := w.cell? ⟨B, 0, none⟩ = some (.int .i64 x.a) ∧ w.cell? ⟨B, 1, none⟩ = some (.int .i64 x.b) ∧ w.cell? ⟨B, 2, none⟩ = some (.int .i64 x.c) ∧ w.cell? ⟨B, 3, none⟩ = some (.int .i64 x.n)
theorem BoxX.later {w w' : World} {B : Nat} {x : Ins} (h : BoxX w B x) (hb : Below w.heap.size w w') : BoxX w' B x := ⟨cell_later hb h.1, cell_later hb h.2.1, cell_later hb h.2.2.1, cell_later hb h.2.2.2⟩
theorem keepI {W w' : World} {B : Nat} {i : Ins} (h : BoxI W B i) (hb : Below W.heap.size W w') : w'.cell? ⟨B, 0, none⟩ = some (.int .i64 i.op) ∧ w'.cell? ⟨B, 1, none⟩ = some (.int .i64 i.a) ∧ w'.cell? ⟨B, 2, none⟩ = some (.int .i64 i.b) ∧ w'.cell? ⟨B, 3, none⟩ = some (.int .i64 i.c) ∧ w'.cell? ⟨B, 4, none⟩ = some (.int .i64 i.n) ∧ Below W.heap.size W w' :=
  have q := h.later hb
  ⟨q.1, q.2.1, q.2.2.1, q.2.2.2.1, q.2.2.2.2, hb⟩
theorem bcell {W w1 : World} (hb : Below W.heap.size W w1) : (∀ b o, b < W.heap.size → w1.cell? ⟨b, o, none⟩ = W.cell? ⟨b, o, none⟩) ∧ (∀ b o, b < W.heap.size → w1.frozen? ⟨b, o, none⟩ = W.frozen? ⟨b, o, none⟩) :=
  ⟨fun b o h => hb.cell (p := ⟨b, o, none⟩) h, fun b o h => hb.frozen (p := ⟨b, o, none⟩) h⟩
theorem keepO {A B C D E Q : Prop} (h : A ∧ B ∧ C ∧ D ∧ E ∧ Q) : Q := h.2.2.2.2.2
theorem b_alloc {W X : World} (h : Below W.heap.size W X) (o : Obj) : Below W.heap.size W (X.alloc o) := bthen h (boxed X o)
theorem keepA {W w' : World} {B A : Nat} {M : MPr} {f : MFn} {i : Ins} (hP : BoxP W B M) (hF : BoxF W (B + 1) f) (hI : BoxI W (B + 1 + 1) i) (hX : BoxX W A i) (hb : Below W.heap.size W w') :
    w'.cell? ⟨B, 0, none⟩ = some (.slice M.va M.vars.length M.vcap) ∧ w'.cell? ⟨B, 1, none⟩ = some (.int .i64 M.locks) ∧ w'.cell? ⟨B, 2, none⟩ = some (.slice M.cha M.chans.length M.chcap) ∧ w'.cell? ⟨B, 3, none⟩ = some (.slice M.fa M.fns.length M.fcap) ∧ w'.cell? ⟨B + 1, 0, none⟩ = some (.int .i64 f.params) ∧ w'.cell? ⟨B + 1, 1, none⟩ = some (.int .i64 f.regs) ∧ w'.cell? ⟨B + 1, 2, none⟩ = some (.slice f.ca f.code.length f.ccap) ∧ w'.cell? ⟨B + 1, 3, none⟩ = some (.slice f.sa f.sels.length f.scap) ∧ w'.cell? ⟨B + 1 + 1, 0, none⟩ = some (.int .i64 i.op) ∧ w'.cell? ⟨B + 1 + 1, 1, none⟩ = some (.int .i64 i.a) ∧ w'.cell? ⟨B + 1 + 1, 2, none⟩ = some (.int .i64 i.b) ∧ w'.cell? ⟨B + 1 + 1, 3, none⟩ = some (.int .i64 i.c) ∧ w'.cell? ⟨B + 1 + 1, 4, none⟩ = some (.int .i64 i.n) ∧ w'.cell? ⟨A, 0, none⟩ = some (.int .i64 i.a) ∧ w'.cell? ⟨A, 1, none⟩ = some (.int .i64 i.b) ∧ w'.cell? ⟨A, 2, none⟩ = some (.int .i64 i.c) ∧ w'.cell? ⟨A, 3, none⟩ = some (.int .i64 i.n) ∧ Below W.heap.size W w' :=
  have p := hP.later hb
  have q := hF.later hb
  have t := hI.later hb
  have x := hX.later hb
  ⟨p.1, p.2.1, p.2.2.1, p.2.2.2, q.1, q.2.1, q.2.2.1, q.2.2.2, t.1, t.2.1, t.2.2.1, t.2.2.2.1, t.2.2.2.2, x.1, x.2.1, x.2.2.1, x.2.2.2, hb⟩
theorem keepL {A0 A1 A2 A3 A4 A5 A6 A7 A8 A9 A10 A11 A12 A13 A14 A15 A16 Q : Prop} (h : A0 ∧ A1 ∧ A2 ∧ A3 ∧ A4 ∧ A5 ∧ A6 ∧ A7 ∧ A8 ∧ A9 ∧ A10 ∧ A11 ∧ A12 ∧ A13 ∧ A14 ∧ A15 ∧ A16 ∧ Q) : Q := h.2.2.2.2.2.2.2.2.2.2.2.2.2.2.2.2.2
theorem p_room {r : Prop} [Decidable r] {P : Pr} {f : Fn} {i : Ins} (k : Nat) (hall : ∀ j, j < k → opndE r P f (lt i.op j) (i.x j) = 0) (h : lt i.op k = 112) : inR i.b P.fns.length := by
  obtain ⟨rfl, h1⟩ := p_where i.op k h
  have h2 := hall 1 (by omega)
  rw [h1] at h2
  apply Classical.byContradiction
  intro q
  have q' : ¬ inR (i.x 1) P.fns.length := q
  simp only [opndE, Int.reduceEq, false_and, false_or, or_false, or_self, if_false, if_true, if_neg q'] at h2
theorem set_same {w : World} {b j : Nat} {u v : Value} (h : w.cell? ⟨b, j, none⟩ = some u) : (w.setCell ⟨b, j, none⟩ v).cell? ⟨b, j, none⟩ = some v := World.cell?_setCell_same _ _ _ h
theorem set_other {w : World} {b j k : Nat} {v : Value} {r : Option Value} (hjk : j ≠ k) (h : w.cell? ⟨b, k, none⟩ = r) : (w.setCell ⟨b, j, none⟩ v).cell? ⟨b, k, none⟩ = r := by
  rw [World.cell?_setCell_other _ _ _ _ (by simp [hjk])]; exact h
theorem boxX_set {w : World} {A : Nat} {i : Ins} {u0 u1 u2 u3 : Value} (h0 : w.cell? ⟨A, 0, none⟩ = some u0) (h1 : w.cell? ⟨A, 1, none⟩ = some u1) (h2 : w.cell? ⟨A, 2, none⟩ = some u2) (h3 : w.cell? ⟨A, 3, none⟩ = some u3) :
    BoxX ((((w.setCell ⟨A, 0, none⟩ (.int .i64 i.a)).setCell ⟨A, 1, none⟩ (.int .i64 i.b)).setCell ⟨A, 2, none⟩ (.int .i64 i.c)).setCell ⟨A, 3, none⟩ (.int .i64 i.n)) A i :=
  ⟨set_other (by decide) (set_other (by decide) (set_other (by decide) (set_same h0))), set_other (by decide) (set_other (by decide) (set_same (set_other (by decide) h1))),
    set_other (by decide) (set_same (set_other (by decide) (set_other (by decide) h2))), set_same (set_other (by decide) (set_other (by decide) (set_other (by decide) h3)))⟩
theorem byte_str (a : Nat) (h : a < 256) : ((UInt8.ofNat ((a : Int).toNat)).toNat : Int) = (a : Int) := by
  simp only [Int.toNat_natCast, UInt8.toNat_ofNat']
  omega
set_option maxHeartbeats 4000000 in
theorem checkInstr_any (M : MPr) (f : MFn) (i : Ins) (w : World) (r : Int) (hl : M.lies w) (hw : i.wf) (h0 : 0 ≤ f.regs) (h8 : f.regs ≤ 8) (hF : prog.Forms w) (hr : Hid (insP M.pr f.fn i = r)) :
    Calls Tryd.prog 52 #[M.val, f.val, i.val] w fun e w' => e = .returned (.int .i64 r) ∧ Below w.heap.size w w' := by
  have hb1 := boxed w (objP M)
  have hb2 := boxed (w.alloc (objP M)) (objF f)
  have hb3 := boxed ((w.alloc (objP M)).alloc (objF f)) (objI i)
  have hb := boxed3 w (objP M) (objF f) (objI i)
  have bP := ((boxP_new w M).later hb2).later hb3
  have bF := (boxF_new (w.alloc (objP M)) f).later hb3
  have bI := boxI_new ((w.alloc (objP M)).alloc (objF f)) i
  simp only [World.size_alloc] at bF bI
  have hL := hl.later hb
  have hFW := hF.later hb
  have hz : w.heap.size + 1 + 1 < (((w.alloc (objP M)).alloc (objF f)).alloc (objI i)).heap.size := by simp only [World.size_alloc]; omega
  clear hb1 hb2 hb3 hl hF
  obtain ⟨F, hFm⟩ : ∃ F, Hid (prog.frm i.op = F) := ⟨_, rfl⟩
  have hop : I64 i.op := hw.1
  go_enter Tryd.func52, Tryd.ntmps52
  go_upto_region 1 with fail
  generalize ((w.alloc (objP M)).alloc (objF f)).alloc (objI i) = W at *
  have hbI : Hid (BoxI W (w.heap.size + 1 + 1) i) := bI
  obtain ⟨i0, i1, i2, i3, i4⟩ := bI
  go_cut [7, 8] (fun u7 u8 wx => ∃ A, u7 = .string F ∧ u8 = .pointer (some ⟨A, 0, none⟩) ∧ BoxX wx A i ∧ Below W.heap.size W wx)
  case first =>
    go_region_held3 (fun w' => w'.cell? ⟨w.heap.size + 1 + 1, 0, none⟩ = some (.int .i64 i.op) ∧ w'.cell? ⟨w.heap.size + 1 + 1, 1, none⟩ = some (.int .i64 i.a) ∧ w'.cell? ⟨w.heap.size + 1 + 1, 2, none⟩ = some (.int .i64 i.b) ∧ w'.cell? ⟨w.heap.size + 1 + 1, 3, none⟩ = some (.int .i64 i.c) ∧ w'.cell? ⟨w.heap.size + 1 + 1, 4, none⟩ = some (.int .i64 i.n) ∧ Below W.heap.size W w') ((refine keepI hbI.out ?_; repeat (first | exact keepO (by assumption) | assumption | exact Below.refl _ _ | refine Below.drew ?_ | refine b_alloc ?_ _ | (refine Below.setCell ?_ (by simp only [World.size_alloc, World.size_drew]; omega) _))))
      (first | (go_at_call 53; refine (prog.form_any i.op hop.1 hop.2 _ (hFW.later (by first | exact keepO (by assumption) | exact (Below.refl _ _).drew)) F hFm.out).mono ?_; rintro e w' ⟨rfl, rfl⟩) | (go_at_call 65; refine (operands_any i _).mono ?_; rintro e w' ⟨rfl, hb2⟩; obtain ⟨hbc, hbf⟩ := bcell hb2; have hBW : Below W.heap.size W w' := bthen (by first | exact keepO (by assumption) | exact (Below.refl _ _).drew) hb2; have hBs := hBW.size))
    · go_wp2_with fail
      go_meet
      case rel => exact ⟨_, rfl, rfl, ⟨by simp [go_sem], by simp [go_sem], by simp [go_sem], by simp [go_sem]⟩, b_alloc hBW _⟩
    all_goals
      go_wp2_with fail
      go_meet
      case rel =>
        have hA : ∀ j, j < 4 → w'.cell? ⟨W.heap.size, j, none⟩ = some (.int .i64 0) := fun j hj => by
          refine cell_later hb2 ?_
          show (W.alloc _).cell? _ = _
          rw [World.cell?_alloc_at _ _ _ _ rfl]
          match j, hj with
          | 0, _ => rfl
          | 1, _ => rfl
          | 2, _ => rfl
          | 3, _ => rfl
        exact ⟨_, rfl, rfl, boxX_set (hA 0 (by omega)) (hA 1 (by omega)) (hA 2 (by omega)) (hA 3 (by omega)), (((hBW.setCell (Nat.le_refl _) _).setCell (Nat.le_refl _) _).setCell (Nat.le_refl _) _).setCell (Nat.le_refl _) _⟩
  case rest =>
    obtain ⟨A, rfl, rfl, hX, hWc⟩ := hcut
    have hbw : Below w.heap.size w wc := bthen hb hWc
    have hFF := hFm.out
    rw [frm_form] at hFF
    rcases formOf_four i.op with hne | ⟨a0, a1, a2, a3, hf4, q0, q1, q2, q3⟩
    · have hv : Hid (r = 33) := hr.out.symm.trans (insE_op hne)
      rw [hne] at hFF
      subst hFF
      clear hFm
      go_wp2
      go_ret
      exact ⟨ret_i hv.out.symm, hbw⟩
    · have hne : Hid (formOf i.op ≠ []) := by show _ ≠ _; rw [hf4]; simp
      have L0 : Hid (lt i.op 0 = (a0 : Int)) := by show lt i.op 0 = _; unfold lt; rw [hf4]; rfl
      have L1 : Hid (lt i.op 1 = (a1 : Int)) := by show lt i.op 1 = _; unfold lt; rw [hf4]; rfl
      have L2 : Hid (lt i.op 2 = (a2 : Int)) := by show lt i.op 2 = _; unfold lt; rw [hf4]; rfl
      have L3 : Hid (lt i.op 3 = (a3 : Int)) := by show lt i.op 3 = _; unfold lt; rw [hf4]; rfl
      have B0 := byte_str a0 q0
      have B1 := byte_str a1 q1
      have B2 := byte_str a2 q2
      have B3 := byte_str a3 q3
      rw [hf4] at hFF
      simp only [List.map] at hFF
      clear hFm hf4
      generalize UInt8.ofNat ((a0 : Int).toNat) = c0 at *
      generalize UInt8.ofNat ((a1 : Int).toNat) = c1 at *
      generalize UInt8.ofNat ((a2 : Int).toNat) = c2 at *
      generalize UInt8.ofNat ((a3 : Int).toNat) = c3 at *
      subst hFF
      have C0 : ((⟨#[c0, c1, c2, c3]⟩ : ByteArray)[0]'(by show 0 < 4; decide)).toNat = a0 := by show c0.toNat = a0; omega
      have C1 : ((⟨#[c0, c1, c2, c3]⟩ : ByteArray)[1]'(by show 1 < 4; decide)).toNat = a1 := by show c1.toNat = a1; omega
      have C2 : ((⟨#[c0, c1, c2, c3]⟩ : ByteArray)[2]'(by show 2 < 4; decide)).toNat = a2 := by show c2.toNat = a2; omega
      have C3 : ((⟨#[c0, c1, c2, c3]⟩ : ByteArray)[3]'(by show 3 < 4; decide)).toNat = a3 := by show c3.toNat = a3; omega
      clear B0 B1 B2 B3 q0 q1 q2 q3
      have hbX0 : Hid (BoxX wc A i) := hX
      have hbP0 : Hid (BoxP wc w.heap.size M) := bP.later hWc
      have hbF0 : Hid (BoxF wc (w.heap.size + 1) f) := bF.later hWc
      have hbI0 : Hid (BoxI wc (w.heap.size + 1 + 1) i) := hbI.out.later hWc
      have hLc : Hid (M.lies wc) := hL.later hWc
      obtain ⟨x0, x1, x2, x3⟩ := hX
      clear bP bF hL hFW i0 i1 i2 i3 i4 hbI hWc hop hb
      go_wp2
      go_loop [21] (fun u => ∃ k : Nat, k ≤ 4 ∧ u = .int .i64 k ∧ ∀ j, j < k → ¬ (lt i.op j = 45 ∧ i.x j ≠ 0)) (fun u => 4 - (intOf u).toNat)
      case atStart => exact ⟨0, Nat.zero_le _, rfl, fun j hj => by omega⟩
      case round =>
        obtain ⟨k, hk, rfl, hall⟩ := hrel
        by_cases hk4 : k = 4
        · subst hk4
          have hun : Hid (¬ unused i) := fun q => by obtain ⟨j, hj, q⟩ := (unused_iff i).mp q; exact hall j hj q
          clear hall x0 x1 x2 x3
          go_wp2
          go_loopw [37] (fun u wr => ∃ k : Nat, k ≤ 4 ∧ u = .int .i64 k ∧ (∀ j, j < k → opndE (roomP (M.pr.par i.b) i.c f.fn.regs) M.pr f.fn (lt i.op j) (i.x j) = 0) ∧ Below wc.heap.size wc wr) (fun u _ => 4 - (intOf u).toNat)
          case atStart => exact ⟨0, Nat.zero_le _, rfl, (fun j hj => by omega), Below.refl _ _⟩
          case round =>
            obtain ⟨k, hk, rfl, hall, hbr⟩ := hrel
            have hbX : Hid (BoxX wr A i) := hbX0.out.later hbr
            have hbP : Hid (BoxP wr w.heap.size M) := hbP0.out.later hbr
            have hbF : Hid (BoxF wr (w.heap.size + 1) f) := hbF0.out.later hbr
            have hbI' : Hid (BoxI wr (w.heap.size + 1 + 1) i) := hbI0.out.later hbr
            have hLr : M.lies wr := hLc.out.later hbr
            by_cases hk4 : k = 4
            · subst hk4
              have hv : Hid (r = 0) := hr.out.symm.trans (insE_ok hne.out hun.out hall)
              go_wp2
              go_ret
              exact ⟨ret_i hv.out.symm, bthen hbw hbr⟩
            have hk0 : k = 0 ∨ k = 1 ∨ k = 2 ∨ k = 3 := by omega
            rcases hk0 with hk0 | hk1 | hk2 | hk3
            · subst hk0
              obtain ⟨e, he⟩ : ∃ e, Hid (opE M f i i.a (a0 : Int) = e) := ⟨_, rfl⟩
              have he' : Hid (opE M f i (i.x 0) (lt i.op 0) = e) := by show opE M f i i.a (lt i.op 0) = e; rw [L0.out]; exact he.out
              have hp : (a0 : Int) = 112 → 0 ≤ i.b ∧ i.b < (M.fns.length : Int) := fun h => by have := p_room 0 hall (L0.out.trans h); simpa [MPr.pr] using this
              have hcall : ∀ wx, Below wr.heap.size wr wx → Calls Tryd.prog 66 #[M.val, f.val, i.val, .int .u8 (a0 : Int), .int .i64 i.a] wx _ := fun wx hx => checkOperand_any M f i i.a wx e (a0 : Int) (hLr.later hx) hw h0 h8 hp he
              clear he hp hLr
              obtain ⟨p0, p1, p2, p3, f0, f1, f2, f3, i0, i1, i2, i3, i4, x0, x1, x2, x3, _⟩ := keepA hbP.out hbF.out hbI'.out hbX.out (Below.refl _ wr)
              go_wp2_with fail
              go_region_held3 (fun w' => w'.cell? ⟨w.heap.size, 0, none⟩ = some (.slice M.va M.vars.length M.vcap) ∧ w'.cell? ⟨w.heap.size, 1, none⟩ = some (.int .i64 M.locks) ∧ w'.cell? ⟨w.heap.size, 2, none⟩ = some (.slice M.cha M.chans.length M.chcap) ∧ w'.cell? ⟨w.heap.size, 3, none⟩ = some (.slice M.fa M.fns.length M.fcap) ∧ w'.cell? ⟨w.heap.size + 1, 0, none⟩ = some (.int .i64 f.params) ∧ w'.cell? ⟨w.heap.size + 1, 1, none⟩ = some (.int .i64 f.regs) ∧ w'.cell? ⟨w.heap.size + 1, 2, none⟩ = some (.slice f.ca f.code.length f.ccap) ∧ w'.cell? ⟨w.heap.size + 1, 3, none⟩ = some (.slice f.sa f.sels.length f.scap) ∧ w'.cell? ⟨w.heap.size + 1 + 1, 0, none⟩ = some (.int .i64 i.op) ∧ w'.cell? ⟨w.heap.size + 1 + 1, 1, none⟩ = some (.int .i64 i.a) ∧ w'.cell? ⟨w.heap.size + 1 + 1, 2, none⟩ = some (.int .i64 i.b) ∧ w'.cell? ⟨w.heap.size + 1 + 1, 3, none⟩ = some (.int .i64 i.c) ∧ w'.cell? ⟨w.heap.size + 1 + 1, 4, none⟩ = some (.int .i64 i.n) ∧ w'.cell? ⟨A, 0, none⟩ = some (.int .i64 i.a) ∧ w'.cell? ⟨A, 1, none⟩ = some (.int .i64 i.b) ∧ w'.cell? ⟨A, 2, none⟩ = some (.int .i64 i.c) ∧ w'.cell? ⟨A, 3, none⟩ = some (.int .i64 i.n) ∧ Below wr.heap.size wr w') ((refine keepA hbP.out hbF.out hbI'.out hbX.out ?_; repeat (first | exact keepL (by assumption) | assumption | exact Below.refl _ _ | refine Below.drew ?_)))
                (first | (go_at_call 66; refine (hcall _ (by repeat (first | exact keepL (by assumption) | exact Below.refl _ _ | refine Below.drew ?_))).mono ?_; rintro e w' ⟨rfl, hb2⟩; have hBW : Below wr.heap.size wr w' := bthen (by repeat (first | exact keepL (by assumption) | exact Below.refl _ _ | refine Below.drew ?_)) hb2))
              by_cases h00 : e = 0
              · subst h00
                go_wp2
                go_roundw
                case rel => exact ⟨1, by omega, rfl, (fun j hj => by
                  by_cases hj' : j = 0
                  · subst hj'; exact he'.out
                  · exact hall j (by omega)), bthen hbr hBW⟩
                case measure => simp [intOf]
              · have hv : Hid (r = e) := hr.out.symm.trans ((insE_hit hne.out hun.out 0 (by omega) hall (fun q => h00 (he'.out.symm.trans q))).trans he'.out)
                go_wp2
                go_ret
                exact ⟨ret_i hv.out.symm, bthen (bthen hbw hbr) hBW⟩
            · subst hk1
              obtain ⟨e, he⟩ : ∃ e, Hid (opE M f i i.b (a1 : Int) = e) := ⟨_, rfl⟩
              have he' : Hid (opE M f i (i.x 1) (lt i.op 1) = e) := by show opE M f i i.b (lt i.op 1) = e; rw [L1.out]; exact he.out
              have hp : (a1 : Int) = 112 → 0 ≤ i.b ∧ i.b < (M.fns.length : Int) := fun h => by have := p_room 1 hall (L1.out.trans h); simpa [MPr.pr] using this
              have hcall : ∀ wx, Below wr.heap.size wr wx → Calls Tryd.prog 66 #[M.val, f.val, i.val, .int .u8 (a1 : Int), .int .i64 i.b] wx _ := fun wx hx => checkOperand_any M f i i.b wx e (a1 : Int) (hLr.later hx) hw h0 h8 hp he
              clear he hp hLr
              obtain ⟨p0, p1, p2, p3, f0, f1, f2, f3, i0, i1, i2, i3, i4, x0, x1, x2, x3, _⟩ := keepA hbP.out hbF.out hbI'.out hbX.out (Below.refl _ wr)
              go_wp2_with fail
              go_region_held3 (fun w' => w'.cell? ⟨w.heap.size, 0, none⟩ = some (.slice M.va M.vars.length M.vcap) ∧ w'.cell? ⟨w.heap.size, 1, none⟩ = some (.int .i64 M.locks) ∧ w'.cell? ⟨w.heap.size, 2, none⟩ = some (.slice M.cha M.chans.length M.chcap) ∧ w'.cell? ⟨w.heap.size, 3, none⟩ = some (.slice M.fa M.fns.length M.fcap) ∧ w'.cell? ⟨w.heap.size + 1, 0, none⟩ = some (.int .i64 f.params) ∧ w'.cell? ⟨w.heap.size + 1, 1, none⟩ = some (.int .i64 f.regs) ∧ w'.cell? ⟨w.heap.size + 1, 2, none⟩ = some (.slice f.ca f.code.length f.ccap) ∧ w'.cell? ⟨w.heap.size + 1, 3, none⟩ = some (.slice f.sa f.sels.length f.scap) ∧ w'.cell? ⟨w.heap.size + 1 + 1, 0, none⟩ = some (.int .i64 i.op) ∧ w'.cell? ⟨w.heap.size + 1 + 1, 1, none⟩ = some (.int .i64 i.a) ∧ w'.cell? ⟨w.heap.size + 1 + 1, 2, none⟩ = some (.int .i64 i.b) ∧ w'.cell? ⟨w.heap.size + 1 + 1, 3, none⟩ = some (.int .i64 i.c) ∧ w'.cell? ⟨w.heap.size + 1 + 1, 4, none⟩ = some (.int .i64 i.n) ∧ w'.cell? ⟨A, 0, none⟩ = some (.int .i64 i.a) ∧ w'.cell? ⟨A, 1, none⟩ = some (.int .i64 i.b) ∧ w'.cell? ⟨A, 2, none⟩ = some (.int .i64 i.c) ∧ w'.cell? ⟨A, 3, none⟩ = some (.int .i64 i.n) ∧ Below wr.heap.size wr w') ((refine keepA hbP.out hbF.out hbI'.out hbX.out ?_; repeat (first | exact keepL (by assumption) | assumption | exact Below.refl _ _ | refine Below.drew ?_)))
                (first | (go_at_call 66; refine (hcall _ (by repeat (first | exact keepL (by assumption) | exact Below.refl _ _ | refine Below.drew ?_))).mono ?_; rintro e w' ⟨rfl, hb2⟩; have hBW : Below wr.heap.size wr w' := bthen (by repeat (first | exact keepL (by assumption) | exact Below.refl _ _ | refine Below.drew ?_)) hb2))
              by_cases h00 : e = 0
              · subst h00
                go_wp2
                go_roundw
                case rel => exact ⟨2, by omega, rfl, (fun j hj => by
                  by_cases hj' : j = 1
                  · subst hj'; exact he'.out
                  · exact hall j (by omega)), bthen hbr hBW⟩
                case measure => simp [intOf]
              · have hv : Hid (r = e) := hr.out.symm.trans ((insE_hit hne.out hun.out 1 (by omega) hall (fun q => h00 (he'.out.symm.trans q))).trans he'.out)
                go_wp2
                go_ret
                exact ⟨ret_i hv.out.symm, bthen (bthen hbw hbr) hBW⟩
            · subst hk2
              obtain ⟨e, he⟩ : ∃ e, Hid (opE M f i i.c (a2 : Int) = e) := ⟨_, rfl⟩
              have he' : Hid (opE M f i (i.x 2) (lt i.op 2) = e) := by show opE M f i i.c (lt i.op 2) = e; rw [L2.out]; exact he.out
              have hp : (a2 : Int) = 112 → 0 ≤ i.b ∧ i.b < (M.fns.length : Int) := fun h => by have := p_room 2 hall (L2.out.trans h); simpa [MPr.pr] using this
              have hcall : ∀ wx, Below wr.heap.size wr wx → Calls Tryd.prog 66 #[M.val, f.val, i.val, .int .u8 (a2 : Int), .int .i64 i.c] wx _ := fun wx hx => checkOperand_any M f i i.c wx e (a2 : Int) (hLr.later hx) hw h0 h8 hp he
              clear he hp hLr
              obtain ⟨p0, p1, p2, p3, f0, f1, f2, f3, i0, i1, i2, i3, i4, x0, x1, x2, x3, _⟩ := keepA hbP.out hbF.out hbI'.out hbX.out (Below.refl _ wr)
              go_wp2_with fail
              go_region_held3 (fun w' => w'.cell? ⟨w.heap.size, 0, none⟩ = some (.slice M.va M.vars.length M.vcap) ∧ w'.cell? ⟨w.heap.size, 1, none⟩ = some (.int .i64 M.locks) ∧ w'.cell? ⟨w.heap.size, 2, none⟩ = some (.slice M.cha M.chans.length M.chcap) ∧ w'.cell? ⟨w.heap.size, 3, none⟩ = some (.slice M.fa M.fns.length M.fcap) ∧ w'.cell? ⟨w.heap.size + 1, 0, none⟩ = some (.int .i64 f.params) ∧ w'.cell? ⟨w.heap.size + 1, 1, none⟩ = some (.int .i64 f.regs) ∧ w'.cell? ⟨w.heap.size + 1, 2, none⟩ = some (.slice f.ca f.code.length f.ccap) ∧ w'.cell? ⟨w.heap.size + 1, 3, none⟩ = some (.slice f.sa f.sels.length f.scap) ∧ w'.cell? ⟨w.heap.size + 1 + 1, 0, none⟩ = some (.int .i64 i.op) ∧ w'.cell? ⟨w.heap.size + 1 + 1, 1, none⟩ = some (.int .i64 i.a) ∧ w'.cell? ⟨w.heap.size + 1 + 1, 2, none⟩ = some (.int .i64 i.b) ∧ w'.cell? ⟨w.heap.size + 1 + 1, 3, none⟩ = some (.int .i64 i.c) ∧ w'.cell? ⟨w.heap.size + 1 + 1, 4, none⟩ = some (.int .i64 i.n) ∧ w'.cell? ⟨A, 0, none⟩ = some (.int .i64 i.a) ∧ w'.cell? ⟨A, 1, none⟩ = some (.int .i64 i.b) ∧ w'.cell? ⟨A, 2, none⟩ = some (.int .i64 i.c) ∧ w'.cell? ⟨A, 3, none⟩ = some (.int .i64 i.n) ∧ Below wr.heap.size wr w') ((refine keepA hbP.out hbF.out hbI'.out hbX.out ?_; repeat (first | exact keepL (by assumption) | assumption | exact Below.refl _ _ | refine Below.drew ?_)))
                (first | (go_at_call 66; refine (hcall _ (by repeat (first | exact keepL (by assumption) | exact Below.refl _ _ | refine Below.drew ?_))).mono ?_; rintro e w' ⟨rfl, hb2⟩; have hBW : Below wr.heap.size wr w' := bthen (by repeat (first | exact keepL (by assumption) | exact Below.refl _ _ | refine Below.drew ?_)) hb2))
              by_cases h00 : e = 0
              · subst h00
                go_wp2
                go_roundw
                case rel => exact ⟨3, by omega, rfl, (fun j hj => by
                  by_cases hj' : j = 2
                  · subst hj'; exact he'.out
                  · exact hall j (by omega)), bthen hbr hBW⟩
                case measure => simp [intOf]
              · have hv : Hid (r = e) := hr.out.symm.trans ((insE_hit hne.out hun.out 2 (by omega) hall (fun q => h00 (he'.out.symm.trans q))).trans he'.out)
                go_wp2
                go_ret
                exact ⟨ret_i hv.out.symm, bthen (bthen hbw hbr) hBW⟩
            · subst hk3
              obtain ⟨e, he⟩ : ∃ e, Hid (opE M f i i.n (a3 : Int) = e) := ⟨_, rfl⟩
              have he' : Hid (opE M f i (i.x 3) (lt i.op 3) = e) := by show opE M f i i.n (lt i.op 3) = e; rw [L3.out]; exact he.out
              have hp : (a3 : Int) = 112 → 0 ≤ i.b ∧ i.b < (M.fns.length : Int) := fun h => by have := p_room 3 hall (L3.out.trans h); simpa [MPr.pr] using this
              have hcall : ∀ wx, Below wr.heap.size wr wx → Calls Tryd.prog 66 #[M.val, f.val, i.val, .int .u8 (a3 : Int), .int .i64 i.n] wx _ := fun wx hx => checkOperand_any M f i i.n wx e (a3 : Int) (hLr.later hx) hw h0 h8 hp he
              clear he hp hLr
              obtain ⟨p0, p1, p2, p3, f0, f1, f2, f3, i0, i1, i2, i3, i4, x0, x1, x2, x3, _⟩ := keepA hbP.out hbF.out hbI'.out hbX.out (Below.refl _ wr)
              go_wp2_with fail
              go_region_held3 (fun w' => w'.cell? ⟨w.heap.size, 0, none⟩ = some (.slice M.va M.vars.length M.vcap) ∧ w'.cell? ⟨w.heap.size, 1, none⟩ = some (.int .i64 M.locks) ∧ w'.cell? ⟨w.heap.size, 2, none⟩ = some (.slice M.cha M.chans.length M.chcap) ∧ w'.cell? ⟨w.heap.size, 3, none⟩ = some (.slice M.fa M.fns.length M.fcap) ∧ w'.cell? ⟨w.heap.size + 1, 0, none⟩ = some (.int .i64 f.params) ∧ w'.cell? ⟨w.heap.size + 1, 1, none⟩ = some (.int .i64 f.regs) ∧ w'.cell? ⟨w.heap.size + 1, 2, none⟩ = some (.slice f.ca f.code.length f.ccap) ∧ w'.cell? ⟨w.heap.size + 1, 3, none⟩ = some (.slice f.sa f.sels.length f.scap) ∧ w'.cell? ⟨w.heap.size + 1 + 1, 0, none⟩ = some (.int .i64 i.op) ∧ w'.cell? ⟨w.heap.size + 1 + 1, 1, none⟩ = some (.int .i64 i.a) ∧ w'.cell? ⟨w.heap.size + 1 + 1, 2, none⟩ = some (.int .i64 i.b) ∧ w'.cell? ⟨w.heap.size + 1 + 1, 3, none⟩ = some (.int .i64 i.c) ∧ w'.cell? ⟨w.heap.size + 1 + 1, 4, none⟩ = some (.int .i64 i.n) ∧ w'.cell? ⟨A, 0, none⟩ = some (.int .i64 i.a) ∧ w'.cell? ⟨A, 1, none⟩ = some (.int .i64 i.b) ∧ w'.cell? ⟨A, 2, none⟩ = some (.int .i64 i.c) ∧ w'.cell? ⟨A, 3, none⟩ = some (.int .i64 i.n) ∧ Below wr.heap.size wr w') ((refine keepA hbP.out hbF.out hbI'.out hbX.out ?_; repeat (first | exact keepL (by assumption) | assumption | exact Below.refl _ _ | refine Below.drew ?_)))
                (first | (go_at_call 66; refine (hcall _ (by repeat (first | exact keepL (by assumption) | exact Below.refl _ _ | refine Below.drew ?_))).mono ?_; rintro e w' ⟨rfl, hb2⟩; have hBW : Below wr.heap.size wr w' := bthen (by repeat (first | exact keepL (by assumption) | exact Below.refl _ _ | refine Below.drew ?_)) hb2))
              by_cases h00 : e = 0
              · subst h00
                go_wp2
                go_roundw
                case rel => exact ⟨4, by omega, rfl, (fun j hj => by
                  by_cases hj' : j = 3
                  · subst hj'; exact he'.out
                  · exact hall j (by omega)), bthen hbr hBW⟩
                case measure => simp [intOf]
              · have hv : Hid (r = e) := hr.out.symm.trans ((insE_hit hne.out hun.out 3 (by omega) hall (fun q => h00 (he'.out.symm.trans q))).trans he'.out)
                go_wp2
                go_ret
                exact ⟨ret_i hv.out.symm, bthen (bthen hbw hbr) hBW⟩
        have hk0 : k = 0 ∨ k = 1 ∨ k = 2 ∨ k = 3 := by omega
        rcases hk0 with hk0 | hk1 | hk2 | hk3
        · subst hk0
          by_cases h45 : (a0 : Int) = 45
          · by_cases hx0 : i.a = 0
            · go_wp2
              go_round
              case rel => exact ⟨1, by omega, rfl, fun j hj q => by
                by_cases hj' : j = 0
                · subst hj'; exact q.2 hx0
                · exact hall j (by omega) q⟩
              case measure => simp [intOf]
            · have hv : Hid (r = 34) := hr.out.symm.trans (insE_unused hne.out ((unused_iff i).mpr ⟨0, by omega, L0.out.trans h45, hx0⟩))
              go_wp2
              go_ret
              exact ⟨ret_i hv.out.symm, hbw⟩
          · go_wp2
            go_round
            case rel => exact ⟨1, by omega, rfl, fun j hj q => by
              by_cases hj' : j = 0
              · subst hj'; exact h45 (L0.out.symm.trans q.1)
              · exact hall j (by omega) q⟩
            case measure => simp [intOf]
        · subst hk1
          by_cases h45 : (a1 : Int) = 45
          · by_cases hx0 : i.b = 0
            · go_wp2
              go_round
              case rel => exact ⟨2, by omega, rfl, fun j hj q => by
                by_cases hj' : j = 1
                · subst hj'; exact q.2 hx0
                · exact hall j (by omega) q⟩
              case measure => simp [intOf]
            · have hv : Hid (r = 34) := hr.out.symm.trans (insE_unused hne.out ((unused_iff i).mpr ⟨1, by omega, L1.out.trans h45, hx0⟩))
              go_wp2
              go_ret
              exact ⟨ret_i hv.out.symm, hbw⟩
          · go_wp2
            go_round
            case rel => exact ⟨2, by omega, rfl, fun j hj q => by
              by_cases hj' : j = 1
              · subst hj'; exact h45 (L1.out.symm.trans q.1)
              · exact hall j (by omega) q⟩
            case measure => simp [intOf]
        · subst hk2
          by_cases h45 : (a2 : Int) = 45
          · by_cases hx0 : i.c = 0
            · go_wp2
              go_round
              case rel => exact ⟨3, by omega, rfl, fun j hj q => by
                by_cases hj' : j = 2
                · subst hj'; exact q.2 hx0
                · exact hall j (by omega) q⟩
              case measure => simp [intOf]
            · have hv : Hid (r = 34) := hr.out.symm.trans (insE_unused hne.out ((unused_iff i).mpr ⟨2, by omega, L2.out.trans h45, hx0⟩))
              go_wp2
              go_ret
              exact ⟨ret_i hv.out.symm, hbw⟩
          · go_wp2
            go_round
            case rel => exact ⟨3, by omega, rfl, fun j hj q => by
              by_cases hj' : j = 2
              · subst hj'; exact h45 (L2.out.symm.trans q.1)
              · exact hall j (by omega) q⟩
            case measure => simp [intOf]
        · subst hk3
          by_cases h45 : (a3 : Int) = 45
          · by_cases hx0 : i.n = 0
            · go_wp2
              go_round
              case rel => exact ⟨4, by omega, rfl, fun j hj q => by
                by_cases hj' : j = 3
                · subst hj'; exact q.2 hx0
                · exact hall j (by omega) q⟩
              case measure => simp [intOf]
            · have hv : Hid (r = 34) := hr.out.symm.trans (insE_unused hne.out ((unused_iff i).mpr ⟨3, by omega, L3.out.trans h45, hx0⟩))
              go_wp2
              go_ret
              exact ⟨ret_i hv.out.symm, hbw⟩
          · go_wp2
            go_round
            case rel => exact ⟨4, by omega, rfl, fun j hj q => by
              by_cases hj' : j = 3
              · subst hj'; exact h45 (L3.out.symm.trans q.1)
              · exact hall j (by omega) q⟩
            case measure => simp [intOf]
end Go.Proofs.YtjcmhaaohdmjpaaDoor.pg
