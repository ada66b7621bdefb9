/- The contract of package prog's look at an instruction. -/
import Derived.Test.YtafefnkgdnmjbaaGreatDoorM28
import Derived.Deep.DeepCutAuto
namespace Go.Proofs.YtafefnkgdnmjbaaGreatDoor.pg.pp
open Go.ChangeShapes Go.WideShapes Go.ChangeAt Go.RowKit
set_option linter.unusedVariables false
set_option linter.unusedSimpArgs false
set_option maxRecDepth 100000
attribute [local go_sem ↓] Go.wp_at_zero Go.wp_at_succ
/-- What lies in the box of the four operands. -/
def BoxX (w : World) (B : Nat) (x : Ins) : Prop := w.cell? ⟨B, 0, none⟩ = some (.int .i64 x.a) ∧ w.cell? ⟨B, 1, none⟩ = some (.int .i64 x.b) ∧ w.cell? ⟨B, 2, none⟩ = some (.int .i64 x.c) ∧ w.cell? ⟨B, 3, none⟩ = some (.int .i64 x.n)
theorem BoxX.later {w w' : World} {B : Nat} {x : Ins} (h : BoxX w B x) (hb : Below w.heap.size w w') : BoxX w' B x := ⟨cell_later hb h.1, cell_later hb h.2.1, cell_later hb h.2.2.1, cell_later hb h.2.2.2⟩
theorem keepI {W w' : World} {B : Nat} {i : Ins} (h : BoxI W B i) (hb : Below W.heap.size W w') : w'.cell? ⟨B, 0, none⟩ = some (.int .i64 i.op) ∧ w'.cell? ⟨B, 1, none⟩ = some (.int .i64 i.a) ∧ w'.cell? ⟨B, 2, none⟩ = some (.int .i64 i.b) ∧ w'.cell? ⟨B, 3, none⟩ = some (.int .i64 i.c) ∧ w'.cell? ⟨B, 4, none⟩ = some (.int .i64 i.n) ∧ Below W.heap.size W w' :=
  have q := h.later hb
  ⟨q.1, q.2.1, q.2.2.1, q.2.2.2.1, q.2.2.2.2, hb⟩
theorem bcell {W w1 : World} (hb : Below W.heap.size W w1) : (∀ b o, b < W.heap.size → w1.cell? ⟨b, o, none⟩ = W.cell? ⟨b, o, none⟩) ∧ (∀ b o, b < W.heap.size → w1.frozen? ⟨b, o, none⟩ = W.frozen? ⟨b, o, none⟩) :=
  ⟨fun b o h => hb.cell (p := ⟨b, o, none⟩) h, fun b o h => hb.frozen (p := ⟨b, o, none⟩) h⟩
theorem keepO {A B C D E Q : Prop} (h : A ∧ B ∧ C ∧ D ∧ E ∧ Q) : Q := h.2.2.2.2.2
theorem b_alloc {W X : World} (h : Below W.heap.size W X) (o : Obj) : Below W.heap.size W (X.alloc o) := bthen h (boxed X o)
theorem keepA {W w' : World} {B A : Nat} {M : MPr} {f : MFn} {i : Ins} (hP : BoxP W B M) (hF : BoxF W (B + 1) f) (hI : BoxI W (B + 1 + 1) i) (hX : BoxX W A i) (hb : Below W.heap.size W w') :
    w'.cell? ⟨B, 0, none⟩ = some (.slice M.va M.vars.length M.vcap) ∧ w'.cell? ⟨B, 1, none⟩ = some (.int .i64 M.locks) ∧ w'.cell? ⟨B, 2, none⟩ = some (.slice M.cha M.chans.length M.chcap) ∧ w'.cell? ⟨B, 3, none⟩ = some (.slice M.fa M.fns.length M.fcap) ∧ w'.cell? ⟨B + 1, 0, none⟩ = some (.int .i64 f.params) ∧ w'.cell? ⟨B + 1, 1, none⟩ = some (.int .i64 f.regs) ∧ w'.cell? ⟨B + 1, 2, none⟩ = some (.slice f.ca f.code.length f.ccap) ∧ w'.cell? ⟨B + 1, 3, none⟩ = some (.slice f.sa f.sels.length f.scap) ∧ w'.cell? ⟨B + 1 + 1, 0, none⟩ = some (.int .i64 i.op) ∧ w'.cell? ⟨B + 1 + 1, 1, none⟩ = some (.int .i64 i.a) ∧ w'.cell? ⟨B + 1 + 1, 2, none⟩ = some (.int .i64 i.b) ∧ w'.cell? ⟨B + 1 + 1, 3, none⟩ = some (.int .i64 i.c) ∧ w'.cell? ⟨B + 1 + 1, 4, none⟩ = some (.int .i64 i.n) ∧ w'.cell? ⟨A, 0, none⟩ = some (.int .i64 i.a) ∧ w'.cell? ⟨A, 1, none⟩ = some (.int .i64 i.b) ∧ w'.cell? ⟨A, 2, none⟩ = some (.int .i64 i.c) ∧ w'.cell? ⟨A, 3, none⟩ = some (.int .i64 i.n) ∧ Below W.heap.size W w' :=
  have p := hP.later hb
  have q := hF.later hb
  have t := hI.later hb
  have x := hX.later hb
  ⟨p.1, p.2.1, p.2.2.1, p.2.2.2, q.1, q.2.1, q.2.2.1, q.2.2.2, t.1, t.2.1, t.2.2.1, t.2.2.2.1, t.2.2.2.2, x.1, x.2.1, x.2.2.1, x.2.2.2, hb⟩
theorem keepL {A0 A1 A2 A3 A4 A5 A6 A7 A8 A9 A10 A11 A12 A13 A14 A15 A16 Q : Prop} (h : A0 ∧ A1 ∧ A2 ∧ A3 ∧ A4 ∧ A5 ∧ A6 ∧ A7 ∧ A8 ∧ A9 ∧ A10 ∧ A11 ∧ A12 ∧ A13 ∧ A14 ∧ A15 ∧ A16 ∧ Q) : Q := h.2.2.2.2.2.2.2.2.2.2.2.2.2.2.2.2.2
theorem p_room {r : Prop} [Decidable r] {P : Pr} {f : Fn} {i : Ins} (k : Nat) (hall : ∀ j, j < k → opndE r P f (lt i.op j) (i.x j) = 0) (h : lt i.op k = 112) : inRp i.b P.fns.length := by
  obtain ⟨rfl, h1⟩ := p_where i.op k h
  have h2 := hall 1 (by omega)
  rw [h1] at h2
  apply Classical.byContradiction
  intro q
  have q' : ¬ inRp (i.x 1) P.fns.length := q
  simp only [opndE, Int.reduceEq, false_and, false_or, or_false, or_self, if_false, if_true, if_neg q'] at h2
theorem set_same {w : World} {b j : Nat} {u v : Value} (h : w.cell? ⟨b, j, none⟩ = some u) : (w.setCell ⟨b, j, none⟩ v).cell? ⟨b, j, none⟩ = some v := World.cell?_setCell_same _ _ _ h
theorem set_other {w : World} {b j k : Nat} {v : Value} {r : Option Value} (hjk : j ≠ k) (h : w.cell? ⟨b, k, none⟩ = r) : (w.setCell ⟨b, j, none⟩ v).cell? ⟨b, k, none⟩ = r := by
  rw [World.cell?_setCell_other _ _ _ _ (by simp [hjk])]; exact h
theorem boxX_set {w : World} {A : Nat} {i : Ins} {u0 u1 u2 u3 : Value} (h0 : w.cell? ⟨A, 0, none⟩ = some u0) (h1 : w.cell? ⟨A, 1, none⟩ = some u1) (h2 : w.cell? ⟨A, 2, none⟩ = some u2) (h3 : w.cell? ⟨A, 3, none⟩ = some u3) :
    BoxX ((((w.setCell ⟨A, 0, none⟩ (.int .i64 i.a)).setCell ⟨A, 1, none⟩ (.int .i64 i.b)).setCell ⟨A, 2, none⟩ (.int .i64 i.c)).setCell ⟨A, 3, none⟩ (.int .i64 i.n)) A i :=
  ⟨set_other (by decide) (set_other (by decide) (set_other (by decide) (set_same h0))), set_other (by decide) (set_other (by decide) (set_same (set_other (by decide) h1))),
    set_other (by decide) (set_same (set_other (by decide) (set_other (by decide) h2))), set_same (set_other (by decide) (set_other (by decide) (set_other (by decide) h3)))⟩
theorem byte_str (a : Nat) (h : a < 256) : ((UInt8.ofNat ((a : Int).toNat)).toNat : Int) = (a : Int) := by
  simp only [Int.toNat_natCast, UInt8.toNat_ofNat']
  omega
set_option maxHeartbeats 4000000 in
theorem checkInstr_any (M : MPr) (f : MFn) (i : Ins) (w : World) (r : Int) (hl : M.lies w) (hw : i.wf) (h0 : 0 ≤ f.regs) (h8 : f.regs ≤ 8) (hF : prog.Forms w) (hr : Hid (insP M.pr f.fn i = r)) :
    Calls Tryz.prog 154 #[M.val, f.val, i.val] w fun e w' => e = .returned (.int .i64 r) ∧ Below w.heap.size w w' := by
  have hb1 := boxed w (objP M)
  have hb2 := boxed (w.alloc (objP M)) (objF f)
  have hb3 := boxed ((w.alloc (objP M)).alloc (objF f)) (objI i)
  have hb := boxed3 w (objP M) (objF f) (objI i)
  have bP := ((boxP_new w M).later hb2).later hb3
  have bF := (boxF_new (w.alloc (objP M)) f).later hb3
  have bI := boxI_new ((w.alloc (objP M)).alloc (objF f)) i
  simp only [World.size_alloc] at bF bI
  have hL := hl.later hb
  have hFW := hF.later hb
  have hz : w.heap.size + 1 + 1 < (((w.alloc (objP M)).alloc (objF f)).alloc (objI i)).heap.size := by simp only [World.size_alloc]; omega
  clear hb1 hb2 hb3 hl hF
  obtain ⟨F, hFm⟩ : ∃ F, Hid (prog.frm i.op = F) := ⟨_, rfl⟩
  have hop : I64 i.op := hw.1
  go_enter Tryz.func154, Tryz.ntmps154
  go_upto_region 1 with fail
  generalize ((w.alloc (objP M)).alloc (objF f)).alloc (objI i) = W at *
  have hbI : Hid (BoxI W (w.heap.size + 1 + 1) i) := bI
  obtain ⟨i0, i1, i2, i3, i4⟩ := bI
  go_cut [7, 8] (fun u7 u8 wx => ∃ A, u7 = .string F ∧ u8 = .pointer (some ⟨A, 0, none⟩) ∧ BoxX wx A i ∧ Below W.heap.size W wx)
  case first =>
    go_region_held3 (fun w' => w'.cell? ⟨w.heap.size + 1 + 1, 0, none⟩ = some (.int .i64 i.op) ∧ w'.cell? ⟨w.heap.size + 1 + 1, 1, none⟩ = some (.int .i64 i.a) ∧ w'.cell? ⟨w.heap.size + 1 + 1, 2, none⟩ = some (.int .i64 i.b) ∧ w'.cell? ⟨w.heap.size + 1 + 1, 3, none⟩ = some (.int .i64 i.c) ∧ w'.cell? ⟨w.heap.size + 1 + 1, 4, none⟩ = some (.int .i64 i.n) ∧ Below W.heap.size W w') ((refine keepI hbI.out ?_; repeat (first | exact keepO (by assumption) | assumption | exact Below.refl _ _ | refine Below.drew ?_ | refine b_alloc ?_ _ | (refine Below.setCell ?_ (by simp only [World.size_alloc, World.size_drew]; omega) _))))
      (first | (go_at_call 172; refine (prog.form_any i.op hop.1 hop.2 _ (hFW.later (by first | exact keepO (by assumption) | exact (Below.refl _ _).drew)) F hFm.out).mono ?_; rintro e w' ⟨rfl, rfl⟩) | (go_at_call 173; refine (operands_any i _).mono ?_; rintro e w' ⟨rfl, hb2⟩; obtain ⟨hbc, hbf⟩ := bcell hb2; have hBW : Below W.heap.size W w' := bthen (by first | exact keepO (by assumption) | exact (Below.refl _ _).drew) hb2; have hBs := hBW.size))
    · go_wp2_with fail
      go_meet
      case rel => exact ⟨_, rfl, rfl, ⟨by simp [go_sem], by simp [go_sem], by simp [go_sem], by simp [go_sem]⟩, b_alloc hBW _⟩
    all_goals
      go_wp2_with fail
      go_meet
      case rel =>
        have hA : ∀ j, j < 4 → w'.cell? ⟨W.heap.size, j, none⟩ = some (.int .i64 0) := fun j hj => by
          refine cell_later hb2 ?_
          show (W.alloc _).cell? _ = _
          rw [World.cell?_alloc_at _ _ _ _ rfl]
          match j, hj with
          | 0, _ => rfl
          | 1, _ => rfl
          | 2, _ => rfl
          | 3, _ => rfl
        exact ⟨_, rfl, rfl, boxX_set (hA 0 (by omega)) (hA 1 (by omega)) (hA 2 (by omega)) (hA 3 (by omega)), (((hBW.setCell (Nat.le_refl _) _).setCell (Nat.le_refl _) _).setCell (Nat.le_refl _) _).setCell (Nat.le_refl _) _⟩
  case rest =>
    obtain ⟨A, rfl, rfl, hX, hWc⟩ := hcut
    have hbw : Below w.heap.size w wc := bthen hb hWc
    have hFF := hFm.out
    rw [frm_form] at hFF
    rcases formOf_four i.op with hne | ⟨a0, a1, a2, a3, hf4, q0, q1, q2, q3⟩
    · have hv : Hid (r = 33) := hr.out.symm.trans (insE_op hne)
      rw [hne] at hFF
      subst hFF
      clear hFm
      go_wp2
      go_ret
      exact ⟨ret_i hv.out.symm, hbw⟩
    · have hne : Hid (formOf i.op ≠ []) := by show _ ≠ _; rw [hf4]; simp
      have L0 : Hid (lt i.op 0 = (a0 : Int)) := by show lt i.op 0 = _; unfold lt; rw [hf4]; rfl
      have L1 : Hid (lt i.op 1 = (a1 : Int)) := by show lt i.op 1 = _; unfold lt; rw [hf4]; rfl
      have L2 : Hid (lt i.op 2 = (a2 : Int)) := by show lt i.op 2 = _; unfold lt; rw [hf4]; rfl
      have L3 : Hid (lt i.op 3 = (a3 : Int)) := by show lt i.op 3 = _; unfold lt; rw [hf4]; rfl
      have B0 := byte_str a0 q0
      have B1 := byte_str a1 q1
      have B2 := byte_str a2 q2
      have B3 := byte_str a3 q3
      rw [hf4] at hFF
      simp only [List.map] at hFF
      clear hFm hf4
      generalize UInt8.ofNat ((a0 : Int).toNat) = c0 at *
      generalize UInt8.ofNat ((a1 : Int).toNat) = c1 at *
      generalize UInt8.ofNat ((a2 : Int).toNat) = c2 at *
      generalize UInt8.ofNat ((a3 : Int).toNat) = c3 at *
      subst hFF
      have C0 : ((⟨#[c0, c1, c2, c3]⟩ : ByteArray)[0]'(by show 0 < 4; decide)).toNat = a0 := by show c0.toNat = a0; omega
      have C1 : ((⟨#[c0, c1, c2, c3]⟩ : ByteArray)[1]'(by show 1 < 4; decide)).toNat = a1 := by show c1.toNat = a1; omega
      have C2 : ((⟨#[c0, c1, c2, c3]⟩ : ByteArray)[2]'(by show 2 < 4; decide)).toNat = a2 := by show c2.toNat = a2; omega
      have C3 : ((⟨#[c0, c1, c2, c3]⟩ : ByteArray)[3]'(by show 3 < 4; decide)).toNat = a3 := by show c3.toNat = a3; omega
      clear B0 B1 B2 B3 q0 q1 q2 q3
      have hbX0 : Hid (BoxX wc A i) := hX
      have hbP0 : Hid (BoxP wc w.heap.size M) := bP.later hWc
      have hbF0 : Hid (BoxF wc (w.heap.size + 1) f) := bF.later hWc
      have hbI0 : Hid (BoxI wc (w.heap.size + 1 + 1) i) := hbI.out.later hWc
      have hLc : Hid (M.lies wc) := hL.later hWc
      obtain ⟨x0, x1, x2, x3⟩ := hX
      clear bP bF hL hFW i0 i1 i2 i3 i4 hbI hWc hop hb
      go_wp2
      go_loop [21] (fun u => ∃ k : Nat, k ≤ 4 ∧ u = .int .i64 k ∧ ∀ j, j < k → ¬ (lt i.op j = 45 ∧ i.x j ≠ 0)) (fun u => 4 - (intOf u).toNat)
      case atStart => exact ⟨0, Nat.zero_le _, rfl, fun j hj => by omega⟩
      case round =>
        obtain ⟨k, hk, rfl, hall⟩ := hrel
        by_cases hk4 : k = 4
        · subst hk4
          have hun : Hid (¬ unused i) := fun q => by obtain ⟨j, hj, q⟩ := (unused_iff i).mp q; exact hall j hj q
          clear hall x0 x1 x2 x3
          go_wp2
          go_loopw [37] (fun u wr => ∃ k : Nat, k ≤ 4 ∧ u = .int .i64 k ∧ (∀ j, j < k → opndE (roomP (M.pr.par i.b) i.c f.fn.regs) M.pr f.fn (lt i.op j) (i.x j) = 0) ∧ Below wc.heap.size wc wr) (fun u _ => 4 - (intOf u).toNat)
          case atStart => exact ⟨0, Nat.zero_le _, rfl, (fun j hj => by omega), Below.refl _ _⟩
          case round =>
            obtain ⟨k, hk, rfl, hall, hbr⟩ := hrel
            have hbX : Hid (BoxX wr A i) := hbX0.out.later hbr
            have hbP : Hid (BoxP wr w.heap.size M) := hbP0.out.later hbr
            have hbF : Hid (BoxF wr (w.heap.size + 1) f) := hbF0.out.later hbr
            have hbI' : Hid (BoxI wr (w.heap.size + 1 + 1) i) := hbI0.out.later hbr
            have hLr : M.lies wr := hLc.out.later hbr
            by_cases hk4 : k = 4
            · subst hk4
              have hv : Hid (r = 0) := hr.out.symm.trans (insE_ok hne.out hun.out hall)
              go_wp2
              go_ret
              exact ⟨ret_i hv.out.symm, bthen hbw hbr⟩
            have hk0 : k = 0 ∨ k = 1 ∨ k = 2 ∨ k = 3 := by omega
            rcases hk0 with hk0 | hk1 | hk2 | hk3
            · subst hk0
              obtain ⟨e, he⟩ : ∃ e, Hid (opE M f i i.a (a0 : Int) = e) := ⟨_, rfl⟩
              have he' : Hid (opE M f i (i.x 0) (lt i.op 0) = e) := by show opE M f i i.a (lt i.op 0) = e; rw [L0.out]; exact he.out
              have hp : (a0 : Int) = 112 → 0 ≤ i.b ∧ i.b < (M.fns.length : Int) := fun h => by have := p_room 0 hall (L0.out.trans h); simpa [MPr.pr] using this
              have hcall : ∀ wx, Below wr.heap.size wr wx → Calls Tryz.prog 174 #[M.val, f.val, i.val, .int .u8 (a0 : Int), .int .i64 i.a] wx _ := fun wx hx => checkOperand_any M f i i.a wx e (a0 : Int) (hLr.later hx) hw h0 h8 hp he
              clear he hp hLr
              obtain ⟨p0, p1, p2, p3, f0, f1, f2, f3, i0, i1, i2, i3, i4, x0, x1, x2, x3, _⟩ := keepA hbP.out hbF.out hbI'.out hbX.out (Below.refl _ wr)
              go_wp2_with fail
              go_region_held3 (fun w' => w'.cell? ⟨w.heap.size, 0, none⟩ = some (.slice M.va M.vars.length M.vcap) ∧ w'.cell? ⟨w.heap.size, 1, none⟩ = some (.int .i64 M.locks) ∧ w'.cell? ⟨w.heap.size, 2, none⟩ = some (.slice M.cha M.chans.length M.chcap) ∧ w'.cell? ⟨w.heap.size, 3, none⟩ = some (.slice M.fa M.fns.length M.fcap) ∧ w'.cell? ⟨w.heap.size + 1, 0, none⟩ = some (.int .i64 f.params) ∧ w'.cell? ⟨w.heap.size + 1, 1, none⟩ = some (.int .i64 f.regs) ∧ w'.cell? ⟨w.heap.size + 1, 2, none⟩ = some (.slice f.ca f.code.length f.ccap) ∧ w'.cell? ⟨w.heap.size + 1, 3, none⟩ = some (.slice f.sa f.sels.length f.scap) ∧ w'.cell? ⟨w.heap.size + 1 + 1, 0, none⟩ = some (.int .i64 i.op) ∧ w'.cell? ⟨w.heap.size + 1 + 1, 1, none⟩ = some (.int .i64 i.a) ∧ w'.cell? ⟨w.heap.size + 1 + 1, 2, none⟩ = some (.int .i64 i.b) ∧ w'.cell? ⟨w.heap.size + 1 + 1, 3, none⟩ = some (.int .i64 i.c) ∧ w'.cell? ⟨w.heap.size + 1 + 1, 4, none⟩ = some (.int .i64 i.n) ∧ w'.cell? ⟨A, 0, none⟩ = some (.int .i64 i.a) ∧ w'.cell? ⟨A, 1, none⟩ = some (.int .i64 i.b) ∧ w'.cell? ⟨A, 2, none⟩ = some (.int .i64 i.c) ∧ w'.cell? ⟨A, 3, none⟩ = some (.int .i64 i.n) ∧ Below wr.heap.size wr w') ((refine keepA hbP.out hbF.out hbI'.out hbX.out ?_; repeat (first | exact keepL (by assumption) | assumption | exact Below.refl _ _ | refine Below.drew ?_)))
                (first | (go_at_call 174; refine (hcall _ (by repeat (first | exact keepL (by assumption) | exact Below.refl _ _ | refine Below.drew ?_))).mono ?_; rintro e w' ⟨rfl, hb2⟩; have hBW : Below wr.heap.size wr w' := bthen (by repeat (first | exact keepL (by assumption) | exact Below.refl _ _ | refine Below.drew ?_)) hb2))
              by_cases h00 : e = 0
              · subst h00
                go_wp2
                go_roundw
                case rel => exact ⟨1, by omega, rfl, (fun j hj => by
                  by_cases hj' : j = 0
                  · subst hj'; exact he'.out
                  · exact hall j (by omega)), bthen hbr hBW⟩
                case measure => simp [intOf]
              · have hv : Hid (r = e) := hr.out.symm.trans ((insE_hit hne.out hun.out 0 (by omega) hall (fun q => h00 (he'.out.symm.trans q))).trans he'.out)
                go_wp2
                go_ret
                exact ⟨ret_i hv.out.symm, bthen (bthen hbw hbr) hBW⟩
            · subst hk1
              obtain ⟨e, he⟩ : ∃ e, Hid (opE M f i i.b (a1 : Int) = e) := ⟨_, rfl⟩
              have he' : Hid (opE M f i (i.x 1) (lt i.op 1) = e) := by show opE M f i i.b (lt i.op 1) = e; rw [L1.out]; exact he.out
              have hp : (a1 : Int) = 112 → 0 ≤ i.b ∧ i.b < (M.fns.length : Int) := fun h => by have := p_room 1 hall (L1.out.trans h); simpa [MPr.pr] using this
              have hcall : ∀ wx, Below wr.heap.size wr wx → Calls Tryz.prog 174 #[M.val, f.val, i.val, .int .u8 (a1 : Int), .int .i64 i.b] wx _ := fun wx hx => checkOperand_any M f i i.b wx e (a1 : Int) (hLr.later hx) hw h0 h8 hp he
              clear he hp hLr
              obtain ⟨p0, p1, p2, p3, f0, f1, f2, f3, i0, i1, i2, i3, i4, x0, x1, x2, x3, _⟩ := keepA hbP.out hbF.out hbI'.out hbX.out (Below.refl _ wr)
              go_wp2_with fail
              go_region_held3 (fun w' => w'.cell? ⟨w.heap.size, 0, none⟩ = some (.slice M.va M.vars.length M.vcap) ∧ w'.cell? ⟨w.heap.size, 1, none⟩ = some (.int .i64 M.locks) ∧ w'.cell? ⟨w.heap.size, 2, none⟩ = some (.slice M.cha M.chans.length M.chcap) ∧ w'.cell? ⟨w.heap.size, 3, none⟩ = some (.slice M.fa M.fns.length M.fcap) ∧ w'.cell? ⟨w.heap.size + 1, 0, none⟩ = some (.int .i64 f.params) ∧ w'.cell? ⟨w.heap.size + 1, 1, none⟩ = some (.int .i64 f.regs) ∧ w'.cell? ⟨w.heap.size + 1, 2, none⟩ = some (.slice f.ca f.code.length f.ccap) ∧ w'.cell? ⟨w.heap.size + 1, 3, none⟩ = some (.slice f.sa f.sels.length f.scap) ∧ w'.cell? ⟨w.heap.size + 1 + 1, 0, none⟩ = some (.int .i64 i.op) ∧ w'.cell? ⟨w.heap.size + 1 + 1, 1, none⟩ = some (.int .i64 i.a) ∧ w'.cell? ⟨w.heap.size + 1 + 1, 2, none⟩ = some (.int .i64 i.b) ∧ w'.cell? ⟨w.heap.size + 1 + 1, 3, none⟩ = some (.int .i64 i.c) ∧ w'.cell? ⟨w.heap.size + 1 + 1, 4, none⟩ = some (.int .i64 i.n) ∧ w'.cell? ⟨A, 0, none⟩ = some (.int .i64 i.a) ∧ w'.cell? ⟨A, 1, none⟩ = some (.int .i64 i.b) ∧ w'.cell? ⟨A, 2, none⟩ = some (.int .i64 i.c) ∧ w'.cell? ⟨A, 3, none⟩ = some (.int .i64 i.n) ∧ Below wr.heap.size wr w') ((refine keepA hbP.out hbF.out hbI'.out hbX.out ?_; repeat (first | exact keepL (by assumption) | assumption | exact Below.refl _ _ | refine Below.drew ?_)))
                (first | (go_at_call 174; refine (hcall _ (by repeat (first | exact keepL (by assumption) | exact Below.refl _ _ | refine Below.drew ?_))).mono ?_; rintro e w' ⟨rfl, hb2⟩; have hBW : Below wr.heap.size wr w' := bthen (by repeat (first | exact keepL (by assumption) | exact Below.refl _ _ | refine Below.drew ?_)) hb2))
              by_cases h00 : e = 0
              · subst h00
                go_wp2
                go_roundw
                case rel => exact ⟨2, by omega, rfl, (fun j hj => by
                  by_cases hj' : j = 1
                  · subst hj'; exact he'.out
                  · exact hall j (by omega)), bthen hbr hBW⟩
                case measure => simp [intOf]
              · have hv : Hid (r = e) := hr.out.symm.trans ((insE_hit hne.out hun.out 1 (by omega) hall (fun q => h00 (he'.out.symm.trans q))).trans he'.out)
                go_wp2
                go_ret
                exact ⟨ret_i hv.out.symm, bthen (bthen hbw hbr) hBW⟩
            · subst hk2
              obtain ⟨e, he⟩ : ∃ e, Hid (opE M f i i.c (a2 : Int) = e) := ⟨_, rfl⟩
              have he' : Hid (opE M f i (i.x 2) (lt i.op 2) = e) := by show opE M f i i.c (lt i.op 2) = e; rw [L2.out]; exact he.out
              have hp : (a2 : Int) = 112 → 0 ≤ i.b ∧ i.b < (M.fns.length : Int) := fun h => by have := p_room 2 hall (L2.out.trans h); simpa [MPr.pr] using this
              have hcall : ∀ wx, Below wr.heap.size wr wx → Calls Tryz.prog 174 #[M.val, f.val, i.val, .int .u8 (a2 : Int), .int .i64 i.c] wx _ := fun wx hx => checkOperand_any M f i i.c wx e (a2 : Int) (hLr.later hx) hw h0 h8 hp he
              clear he hp hLr
              obtain ⟨p0, p1, p2, p3, f0, f1, f2, f3, i0, i1, i2, i3, i4, x0, x1, x2, x3, _⟩ := keepA hbP.out hbF.out hbI'.out hbX.out (Below.refl _ wr)
              go_wp2_with fail
              go_region_held3 (fun w' => w'.cell? ⟨w.heap.size, 0, none⟩ = some (.slice M.va M.vars.length M.vcap) ∧ w'.cell? ⟨w.heap.size, 1, none⟩ = some (.int .i64 M.locks) ∧ w'.cell? ⟨w.heap.size, 2, none⟩ = some (.slice M.cha M.chans.length M.chcap) ∧ w'.cell? ⟨w.heap.size, 3, none⟩ = some (.slice M.fa M.fns.length M.fcap) ∧ w'.cell? ⟨w.heap.size + 1, 0, none⟩ = some (.int .i64 f.params) ∧ w'.cell? ⟨w.heap.size + 1, 1, none⟩ = some (.int .i64 f.regs) ∧ w'.cell? ⟨w.heap.size + 1, 2, none⟩ = some (.slice f.ca f.code.length f.ccap) ∧ w'.cell? ⟨w.heap.size + 1, 3, none⟩ = some (.slice f.sa f.sels.length f.scap) ∧ w'.cell? ⟨w.heap.size + 1 + 1, 0, none⟩ = some (.int .i64 i.op) ∧ w'.cell? ⟨w.heap.size + 1 + 1, 1, none⟩ = some (.int .i64 i.a) ∧ w'.cell? ⟨w.heap.size + 1 + 1, 2, none⟩ = some (.int .i64 i.b) ∧ w'.cell? ⟨w.heap.size + 1 + 1, 3, none⟩ = some (.int .i64 i.c) ∧ w'.cell? ⟨w.heap.size + 1 + 1, 4, none⟩ = some (.int .i64 i.n) ∧ w'.cell? ⟨A, 0, none⟩ = some (.int .i64 i.a) ∧ w'.cell? ⟨A, 1, none⟩ = some (.int .i64 i.b) ∧ w'.cell? ⟨A, 2, none⟩ = some (.int .i64 i.c) ∧ w'.cell? ⟨A, 3, none⟩ = some (.int .i64 i.n) ∧ Below wr.heap.size wr w') ((refine keepA hbP.out hbF.out hbI'.out hbX.out ?_; repeat (first | exact keepL (by assumption) | assumption | exact Below.refl _ _ | refine Below.drew ?_)))
                (first | (go_at_call 174; refine (hcall _ (by repeat (first | exact keepL (by assumption) | exact Below.refl _ _ | refine Below.drew ?_))).mono ?_; rintro e w' ⟨rfl, hb2⟩; have hBW : Below wr.heap.size wr w' := bthen (by repeat (first | exact keepL (by assumption) | exact Below.refl _ _ | refine Below.drew ?_)) hb2))
              by_cases h00 : e = 0
              · subst h00
                go_wp2
                go_roundw
                case rel => exact ⟨3, by omega, rfl, (fun j hj => by
                  by_cases hj' : j = 2
                  · subst hj'; exact he'.out
                  · exact hall j (by omega)), bthen hbr hBW⟩
                case measure => simp [intOf]
              · have hv : Hid (r = e) := hr.out.symm.trans ((insE_hit hne.out hun.out 2 (by omega) hall (fun q => h00 (he'.out.symm.trans q))).trans he'.out)
                go_wp2
                go_ret
                exact ⟨ret_i hv.out.symm, bthen (bthen hbw hbr) hBW⟩
            · subst hk3
              obtain ⟨e, he⟩ : ∃ e, Hid (opE M f i i.n (a3 : Int) = e) := ⟨_, rfl⟩
              have he' : Hid (opE M f i (i.x 3) (lt i.op 3) = e) := by show opE M f i i.n (lt i.op 3) = e; rw [L3.out]; exact he.out
              have hp : (a3 : Int) = 112 → 0 ≤ i.b ∧ i.b < (M.fns.length : Int) := fun h => by have := p_room 3 hall (L3.out.trans h); simpa [MPr.pr] using this
              have hcall : ∀ wx, Below wr.heap.size wr wx → Calls Tryz.prog 174 #[M.val, f.val, i.val, .int .u8 (a3 : Int), .int .i64 i.n] wx _ := fun wx hx => checkOperand_any M f i i.n wx e (a3 : Int) (hLr.later hx) hw h0 h8 hp he
              clear he hp hLr
              obtain ⟨p0, p1, p2, p3, f0, f1, f2, f3, i0, i1, i2, i3, i4, x0, x1, x2, x3, _⟩ := keepA hbP.out hbF.out hbI'.out hbX.out (Below.refl _ wr)
              go_wp2_with fail
              go_region_held3 (fun w' => w'.cell? ⟨w.heap.size, 0, none⟩ = some (.slice M.va M.vars.length M.vcap) ∧ w'.cell? ⟨w.heap.size, 1, none⟩ = some (.int .i64 M.locks) ∧ w'.cell? ⟨w.heap.size, 2, none⟩ = some (.slice M.cha M.chans.length M.chcap) ∧ w'.cell? ⟨w.heap.size, 3, none⟩ = some (.slice M.fa M.fns.length M.fcap) ∧ w'.cell? ⟨w.heap.size + 1, 0, none⟩ = some (.int .i64 f.params) ∧ w'.cell? ⟨w.heap.size + 1, 1, none⟩ = some (.int .i64 f.regs) ∧ w'.cell? ⟨w.heap.size + 1, 2, none⟩ = some (.slice f.ca f.code.length f.ccap) ∧ w'.cell? ⟨w.heap.size + 1, 3, none⟩ = some (.slice f.sa f.sels.length f.scap) ∧ w'.cell? ⟨w.heap.size + 1 + 1, 0, none⟩ = some (.int .i64 i.op) ∧ w'.cell? ⟨w.heap.size + 1 + 1, 1, none⟩ = some (.int .i64 i.a) ∧ w'.cell? ⟨w.heap.size + 1 + 1, 2, none⟩ = some (.int .i64 i.b) ∧ w'.cell? ⟨w.heap.size + 1 + 1, 3, none⟩ = some (.int .i64 i.c) ∧ w'.cell? ⟨w.heap.size + 1 + 1, 4, none⟩ = some (.int .i64 i.n) ∧ w'.cell? ⟨A, 0, none⟩ = some (.int .i64 i.a) ∧ w'.cell? ⟨A, 1, none⟩ = some (.int .i64 i.b) ∧ w'.cell? ⟨A, 2, none⟩ = some (.int .i64 i.c) ∧ w'.cell? ⟨A, 3, none⟩ = some (.int .i64 i.n) ∧ Below wr.heap.size wr w') ((refine keepA hbP.out hbF.out hbI'.out hbX.out ?_; repeat (first | exact keepL (by assumption) | assumption | exact Below.refl _ _ | refine Below.drew ?_)))
                (first | (go_at_call 174; refine (hcall _ (by repeat (first | exact keepL (by assumption) | exact Below.refl _ _ | refine Below.drew ?_))).mono ?_; rintro e w' ⟨rfl, hb2⟩; have hBW : Below wr.heap.size wr w' := bthen (by repeat (first | exact keepL (by assumption) | exact Below.refl _ _ | refine Below.drew ?_)) hb2))
              by_cases h00 : e = 0
              · subst h00
                go_wp2
                go_roundw
                case rel => exact ⟨4, by omega, rfl, (fun j hj => by
                  by_cases hj' : j = 3
                  · subst hj'; exact he'.out
                  · exact hall j (by omega)), bthen hbr hBW⟩
                case measure => simp [intOf]
              · have hv : Hid (r = e) := hr.out.symm.trans ((insE_hit hne.out hun.out 3 (by omega) hall (fun q => h00 (he'.out.symm.trans q))).trans he'.out)
                go_wp2
                go_ret
                exact ⟨ret_i hv.out.symm, bthen (bthen hbw hbr) hBW⟩
        have hk0 : k = 0 ∨ k = 1 ∨ k = 2 ∨ k = 3 := by omega
        rcases hk0 with hk0 | hk1 | hk2 | hk3
        · subst hk0
          by_cases h45 : (a0 : Int) = 45
          · by_cases hx0 : i.a = 0
            · go_wp2
              go_round
              case rel => exact ⟨1, by omega, rfl, fun j hj q => by
                by_cases hj' : j = 0
                · subst hj'; exact q.2 hx0
                · exact hall j (by omega) q⟩
              case measure => simp [intOf]
            · have hv : Hid (r = 34) := hr.out.symm.trans (insE_unused hne.out ((unused_iff i).mpr ⟨0, by omega, L0.out.trans h45, hx0⟩))
              go_wp2
              go_ret
              exact ⟨ret_i hv.out.symm, hbw⟩
          · go_wp2
            go_round
            case rel => exact ⟨1, by omega, rfl, fun j hj q => by
              by_cases hj' : j = 0
              · subst hj'; exact h45 (L0.out.symm.trans q.1)
              · exact hall j (by omega) q⟩
            case measure => simp [intOf]
        · subst hk1
          by_cases h45 : (a1 : Int) = 45
          · by_cases hx0 : i.b = 0
            · go_wp2
              go_round
              case rel => exact ⟨2, by omega, rfl, fun j hj q => by
                by_cases hj' : j = 1
                · subst hj'; exact q.2 hx0
                · exact hall j (by omega) q⟩
              case measure => simp [intOf]
            · have hv : Hid (r = 34) := hr.out.symm.trans (insE_unused hne.out ((unused_iff i).mpr ⟨1, by omega, L1.out.trans h45, hx0⟩))
              go_wp2
              go_ret
              exact ⟨ret_i hv.out.symm, hbw⟩
          · go_wp2
            go_round
            case rel => exact ⟨2, by omega, rfl, fun j hj q => by
              by_cases hj' : j = 1
              · subst hj'; exact h45 (L1.out.symm.trans q.1)
              · exact hall j (by omega) q⟩
            case measure => simp [intOf]
        · subst hk2
          by_cases h45 : (a2 : Int) = 45
          · by_cases hx0 : i.c = 0
            · go_wp2
              go_round
              case rel => exact ⟨3, by omega, rfl, fun j hj q => by
                by_cases hj' : j = 2
                · subst hj'; exact q.2 hx0
                · exact hall j (by omega) q⟩
              case measure => simp [intOf]
            · have hv : Hid (r = 34) := hr.out.symm.trans (insE_unused hne.out ((unused_iff i).mpr ⟨2, by omega, L2.out.trans h45, hx0⟩))
              go_wp2
              go_ret
              exact ⟨ret_i hv.out.symm, hbw⟩
          · go_wp2
            go_round
            case rel => exact ⟨3, by omega, rfl, fun j hj q => by
              by_cases hj' : j = 2
              · subst hj'; exact h45 (L2.out.symm.trans q.1)
              · exact hall j (by omega) q⟩
            case measure => simp [intOf]
        · subst hk3
          by_cases h45 : (a3 : Int) = 45
          · by_cases hx0 : i.n = 0
            · go_wp2
              go_round
              case rel => exact ⟨4, by omega, rfl, fun j hj q => by
                by_cases hj' : j = 3
                · subst hj'; exact q.2 hx0
                · exact hall j (by omega) q⟩
              case measure => simp [intOf]
            · have hv : Hid (r = 34) := hr.out.symm.trans (insE_unused hne.out ((unused_iff i).mpr ⟨3, by omega, L3.out.trans h45, hx0⟩))
              go_wp2
              go_ret
              exact ⟨ret_i hv.out.symm, hbw⟩
          · go_wp2
            go_round
            case rel => exact ⟨4, by omega, rfl, fun j hj q => by
              by_cases hj' : j = 3
              · subst hj'; exact h45 (L3.out.symm.trans q.1)
              · exact hall j (by omega) q⟩
            case measure => simp [intOf]
end Go.Proofs.YtafefnkgdnmjbaaGreatDoor.pg.pp
/- The contracts of package prog's look at a function, and of Check. -/
namespace Go.Proofs.YtafefnkgdnmjbaaGreatDoor.pg.pp
open Go.ChangeShapes Go.WideShapes Go.ChangeAt Go.RowKit
set_option linter.unusedVariables false
set_option linter.unusedSimpArgs false
set_option maxRecDepth 100000
theorem fnE_shape {ins : Pr → Fn → Ins → Int} {P : Pr} {n : Nat} {f : Fn} (h : ¬ (shaped f ∧ (n = 0 → f.params = 0))) : fnE ins P n f = (32, 0) := by unfold fnE; rw [if_neg h]
theorem fnE_sel {ins : Pr → Fn → Ins → Int} {P : Pr} {n : Nat} {f : Fn} {e : Int} (h : shaped f ∧ (n = 0 → f.params = 0)) (h2 : firstE (selE P f) f.sels = e) (he : e ≠ 0) : fnE ins P n f = (e, 0) := by
  unfold fnE; rw [if_pos h, if_neg (by rw [h2]; exact he), h2]
theorem fnE_ins {ins : Pr → Fn → Ins → Int} {P : Pr} {n : Nat} {f : Fn} {e : Int} {k : Nat} (h : shaped f ∧ (n = 0 → f.params = 0)) (h2 : firstE (selE P f) f.sels = 0) (h3 : firstAt (ins P f) f.code 0 = (e, k)) (he : e ≠ 0) : fnE ins P n f = (e, (k : Int)) := by
  have h4 : firstE (ins P f) f.code ≠ 0 := by rw [← firstAt_fst (ins P f) f.code 0, h3]; exact he
  unfold fnE; rw [if_pos h, if_pos h2, if_neg h4, h3]
theorem fnE_fall {ins : Pr → Fn → Ins → Int} {P : Pr} {n : Nat} {f : Fn} (h : shaped f ∧ (n = 0 → f.params = 0)) (h2 : firstE (selE P f) f.sels = 0) (h3 : firstE (ins P f) f.code = 0) (h4 : ¬ ends (lastOp f)) : fnE ins P n f = (39, (f.code.length : Int) - 1) := by
  unfold fnE; rw [if_pos h, if_pos h2, if_pos h3, if_neg h4]
theorem fnE_ok {ins : Pr → Fn → Ins → Int} {P : Pr} {n : Nat} {f : Fn} (h : shaped f ∧ (n = 0 → f.params = 0)) (h2 : firstE (selE P f) f.sels = 0) (h3 : firstE (ins P f) f.code = 0) (h4 : ends (lastOp f)) : fnE ins P n f = (0, 0) := by
  unfold fnE; rw [if_pos h, if_pos h2, if_pos h3, if_pos h4]
theorem ret_ii {a b c d : Int} (h : (a, c) = (b, d)) : Ending.returned (.tuple #[.int .i64 a, .int .i64 c]) = .returned (.tuple #[.int .i64 b, .int .i64 d]) := by
  cases h; rfl
theorem sels_get (f : MFn) (k : Nat) (x : MSel) (hx : f.sels[k]? = some x) : f.fn.sels[k]? = some x.sel := by simp [MFn.fn, hx]
set_option maxHeartbeats 4000000 in
theorem checkFunc_any (M : MPr) (n : Nat) (f : MFn) (w : World) (r q : Int) (hl : M.lies w) (hF : prog.Forms w) (hf : M.fns[n]? = some f) (hr : Hid (fnE insP M.pr n f.fn = (r, q))) :
    Calls Tryz.prog 125 #[M.val, .int .i64 n] w fun e w' => e = .returned (.tuple #[.int .i64 r, .int .i64 q]) ∧ Below w.heap.size w w' := by
  have hb1 := boxed w (objP M)
  have hb2 := boxed (w.alloc (objP M)) (objF f)
  have hb := boxed2 w (objP M) (objF f)
  have bP0 := boxP_new w M
  have bP := bP0.later hb2
  have bF := boxF_new (w.alloc (objP M)) f
  simp only [World.size_alloc] at bF
  have hfm : f ∈ M.fns := List.mem_of_getElem? hf
  have hL := hl.later hb
  have hFW := hF.later hb
  have hfL : f.lies ((w.alloc (objP M)).alloc (objF f)) := hL.2.2.2.2.2.2 f hfm
  have hz : w.heap.size + 1 < ((w.alloc (objP M)).alloc (objF f)).heap.size := by simp only [World.size_alloc]; omega
  have hln := rows_len hfL.1
  have hlns := rows_len hfL.2.1
  obtain ⟨b, o, hix, hbl, c0, c1, c2, c3⟩ := fn_ix (hl.later hb1).2.2.1 n f hf
  obtain ⟨rs, hrs⟩ : ∃ rs, Hid (decide (shaped f.fn) = rs) := ⟨_, rfl⟩
  have hsh := shaped_any f _ hfL rs hrs
  clear hb1 hb2 hl hF bP0 hf hfm
  have hn0 : Hid ((0 : Int) ≤ n) := by show (0 : Int) ≤ n; omega
  go_enter Tryz.func125, Tryz.ntmps125
  cases rs with
  | false =>
    have hv : Hid (fnE insP M.pr n f.fn = (32, 0)) := fnE_shape (fun h => by have := hrs.out; rw [decide_eq_false_iff_not] at this; exact this h.1)
    go_wp2_with (go_at_call 152; (with_reducible refine hsh.mono ?_); rintro e w2 ⟨rfl, hb2⟩)
    go_ret2
    exact ⟨ret_ii (hv.out.symm.trans hr.out), bthen hb hb2⟩
  | true =>
    have hS : Hid (shaped f.fn) := by have := hrs.out; rw [decide_eq_true_iff] at this; exact this
    by_cases h0 : (n : Int) = 0 ∧ ¬ f.params = 0
    · have hv : Hid (fnE insP M.pr n f.fn = (32, 0)) := fnE_shape (fun h => h0.2 (h.2 (by omega)))
      obtain ⟨h00, h01⟩ := h0
      rw [h00] at hix
      go_wp2_with (go_at_call 152; (with_reducible refine hsh.mono ?_); rintro e w2 ⟨rfl, hb2⟩; obtain ⟨f0, f1, f2, f3⟩ := bF.later hb2)
      go_ret2
      exact ⟨ret_ii (hv.out.symm.trans hr.out), bthen hb hb2⟩
    · have hS0 : Hid (shaped f.fn ∧ (n = 0 → f.fn.params = 0)) := ⟨hS.out, fun hn => by
        apply Classical.byContradiction
        intro hp
        exact h0 ⟨by omega, hp⟩⟩
      have hreg : 0 ≤ f.regs ∧ f.regs ≤ 8 := hS.out.1
      have hcl : 1 ≤ f.code.length := hS.out.2.2.1.1
      obtain ⟨xl, hxl, hxm⟩ := get_lt f.code (f.code.length - 1) (by omega)
      have hlast : Hid (lastOp f.fn = xl.op) := by
        show lastOp f.fn = _
        unfold lastOp
        have : f.fn.code.getLast? = some xl := by rw [List.getLast?_eq_getElem?]; exact hxl
        rw [this]
      by_cases hn00 : (n : Int) = 0
      all_goals
        have hp0 : (n : Int) = 0 → f.params = 0 := fun hn => Classical.byContradiction fun hp => h0 ⟨hn, hp⟩
        first | (have hp0h : Hid (f.params = 0) := hp0 hn00; rw [hn00] at hix) | skip
        clear h0 hp0
        go_wp2_with (go_at_call 152; (with_reducible refine hsh.mono ?_); rintro e w2 ⟨rfl, hb2⟩; obtain ⟨f0, f1, f2, f3⟩ := bF.later hb2; first | (have hp00 := hp0h.out) | skip)
        first | clear hp00 | skip
        have hP2 : Hid (BoxP w2 w.heap.size M) := bP.later hb2
        have hF2 : Hid (BoxF w2 (w.heap.size + 1) f) := bF.later hb2
        have hL2 : Hid (M.lies w2) := hL.later hb2
        have hf2 : Hid (f.lies w2) := hfL.later hb2
        have hFo2 : Hid (prog.Forms w2) := hFW.later hb2
        have hbw2 : Below w.heap.size w w2 := bthen hb hb2
        have hz2 : w.heap.size + 1 < w2.heap.size := by have := hb2.size; omega
        clear hb2 hb bP bF hL hfL hFW hz hsh hix c0 c1 c2 c3 hbl f0 f1 f2 f3
        go_loopw [34] (fun u wr => ∃ k : Nat, k ≤ f.sels.length ∧ u = .int .i64 k ∧ (∀ j y, j < k → f.sels[j]? = some y → selE M.pr f.fn y.sel = 0) ∧ Below w2.heap.size w2 wr) (fun u _ => f.sels.length - (intOf u).toNat)
        case atStart => exact ⟨0, Nat.zero_le _, rfl, fun j y hj => by omega, Below.refl _ _⟩
        case round =>
          obtain ⟨k, hk, rfl, hall, hbr⟩ := hrel
          have hPr : Hid (BoxP wr w.heap.size M) := hP2.out.later hbr
          have hFr : Hid (BoxF wr (w.heap.size + 1) f) := hF2.out.later hbr
          obtain ⟨p0, p1, p2, p3⟩ := hPr.out
          obtain ⟨f0, f1, f2, f3⟩ := hFr.out
          have z := hbr.size
          have z0 : w.heap.size < wr.heap.size := by omega
          have z1 : w.heap.size + 1 < wr.heap.size := by omega
          have hbwr : Below w.heap.size w wr := bthen hbw2 hbr
          by_cases hlt : k < f.sels.length
          · obtain ⟨x, hx, hm⟩ := get_lt f.sels k hlt
            have hfr := hf2.out.later hbr
            obtain ⟨b, o, hix, hbl, c0, c1⟩ := sel_ix hfr.2.1 k x hx
            have hLa := (hL2.out.later hbr).later (boxed wr (objS x))
            have hSa := (hfr.2.2.2.1 x hm).later (boxed wr (objS x))
            obtain ⟨e, he⟩ : ∃ e, Hid (selE M.pr f.fn x.sel = e) := ⟨_, rfl⟩
            have hcall := checkSelect_any M f x _ hLa hSa e he
            have hbx : Below w.heap.size w (wr.alloc (objS x)) := bthen hbwr (boxed wr (objS x))
            have hbW : Below w2.heap.size w2 (wr.alloc (objS x)) := bthen hbr (boxed wr (objS x))
            clear hLa hSa hfr
            by_cases h0 : e = 0
            · subst h0
              go_wp2_with (go_at_call 153; (with_reducible refine hcall.mono ?_); rintro e w3 ⟨rfl, hb3⟩)
              go_roundw
              case rel => exact ⟨k + 1, by omega, by go_num, (fun j y hj hy => by
                by_cases hjk : j = k
                · subst hjk; rw [hx] at hy; cases hy; exact he.out
                · exact hall j y (by omega) hy), bthen hbW hb3⟩
              case measure => simp [intOf]; omega
            · have hv : Hid (fnE insP M.pr n f.fn = (e, 0)) := fnE_sel hS0.out ((firstE_hit _ _ k x.sel (sels_get f k x hx) (fun i y hi hy => by
                simp only [MFn.fn, List.getElem?_map, Option.map_eq_some_iff] at hy
                obtain ⟨y', hy', rfl⟩ := hy
                exact hall i y' hi hy') (by rw [he.out]; exact h0)).trans he.out) h0
              go_wp2_with (go_at_call 153; (with_reducible refine hcall.mono ?_); rintro e w3 ⟨rfl, hb3⟩)
              go_ret2
              exact ⟨ret_ii (hv.out.symm.trans hr.out), bthen hbx hb3⟩
          · have hs0 : Hid (firstE (selE M.pr f.fn) f.fn.sels = 0) := firstE_zero _ _ fun s hs => by
              simp only [MFn.fn, List.mem_map] at hs
              obtain ⟨y, hy, rfl⟩ := hs
              obtain ⟨j, hj, rfl⟩ := List.getElem_of_mem hy
              exact hall j _ (by omega) (List.getElem?_eq_getElem hj)
            have hLr : Hid (M.lies wr) := hL2.out.later hbr
            have hfr : Hid (f.lies wr) := hf2.out.later hbr
            have hFor : Hid (prog.Forms wr) := hFo2.out.later hbr
            clear hall hP2 hF2 hL2 hf2 hFo2 hbw2 hbr hz2 z
            go_wp2
            generalize hwq : wr = w4 at *
            go_loopw [49] (fun u wr => ∃ k : Nat, k ≤ f.code.length ∧ u = .int .i64 k ∧ (∀ j y, j < k → f.code[j]? = some y → insP M.pr f.fn y = 0) ∧ Below w4.heap.size w4 wr) (fun u _ => f.code.length - (intOf u).toNat)
            case atStart => exact ⟨0, Nat.zero_le _, rfl, fun j y hj => by omega, Below.refl _ _⟩
            case round =>
              obtain ⟨k, hk, rfl, hall, hbr⟩ := hrel
              have hPr2 : Hid (BoxP wr w.heap.size M) := hPr.out.later hbr
              have hFr2 : Hid (BoxF wr (w.heap.size + 1) f) := hFr.out.later hbr
              clear p0 p1 p2 p3 f0 f1 f2 f3
              obtain ⟨p0, p1, p2, p3⟩ := hPr2.out
              obtain ⟨f0, f1, f2, f3⟩ := hFr2.out
              have z := hbr.size
              have y0 : w.heap.size < wr.heap.size := by omega
              have y1 : w.heap.size + 1 < wr.heap.size := by omega
              have hbwr2 : Below w.heap.size w wr := bthen hbwr hbr
              by_cases hlt : k < f.code.length
              · obtain ⟨x, hx, hm⟩ := get_lt f.code k hlt
                have hfr2 := hfr.out.later hbr
                obtain ⟨b, o, hix, hbl, c0, c1, c2, c3, c4⟩ := ins_ix hfr2.1 k x hx
                have hLa := (hLr.out.later hbr).later (boxed wr (objI x))
                have hFoa := (hFor.out.later hbr).later (boxed wr (objI x))
                obtain ⟨e, he⟩ : ∃ e, Hid (insP M.pr f.fn x = e) := ⟨_, rfl⟩
                have hcall := checkInstr_any M f x _ e hLa (hfr2.2.2.1 x hm) hreg.1 hreg.2 hFoa he
                have hbx : Below w.heap.size w (wr.alloc (objI x)) := bthen hbwr2 (boxed wr (objI x))
                have hbW : Below w4.heap.size w4 (wr.alloc (objI x)) := bthen hbr (boxed wr (objI x))
                clear hLa hFoa hfr2
                by_cases h0 : e = 0
                · subst h0
                  go_wp2_with (go_at_call 154; (with_reducible refine hcall.mono ?_); rintro e w5 ⟨rfl, hb5⟩)
                  go_roundw
                  case rel => exact ⟨k + 1, by omega, by go_num, (fun j y hj hy => by
                    by_cases hjk : j = k
                    · subst hjk; rw [hx] at hy; cases hy; exact he.out
                    · exact hall j y (by omega) hy), bthen hbW hb5⟩
                  case measure => simp [intOf]; omega
                · have hv : Hid (fnE insP M.pr n f.fn = (e, (k : Int))) := fnE_ins hS0.out hs0.out ((firstAt_hit _ _ 0 k x hx hall (by rw [he.out]; exact h0)).trans (by rw [he.out, Nat.zero_add])) h0
                  go_wp2_with (go_at_call 154; (with_reducible refine hcall.mono ?_); rintro e w5 ⟨rfl, hb5⟩)
                  go_ret2
                  exact ⟨ret_ii (hv.out.symm.trans hr.out), bthen hbx hb5⟩
              · have hi0 : Hid (firstE (insP M.pr f.fn) f.fn.code = 0) := firstE_zero _ _ fun s hs => by
                  obtain ⟨j, hj, rfl⟩ := List.getElem_of_mem hs
                  exact hall j _ (by have : j < f.code.length := hj; omega) (List.getElem?_eq_getElem hj)
                have hfr2 := hfr.out.later hbr
                obtain ⟨b, o, hix, hbl, c0, c1, c2, c3, c4⟩ := ins_ix hfr2.1 (f.code.length - 1) xl hxl
                rw [show ((f.code.length - 1 : Nat) : Int) = (f.code.length : Int) - 1 by omega] at hix
                have hclI : (1 : Int) ≤ f.code.length := by omega
                clear hall hfr2
                by_cases e1 : xl.op = 42
                · have hv : Hid (fnE insP M.pr n f.fn = (0, 0)) := fnE_ok hS0.out hs0.out hi0.out (by rw [hlast.out]; exact .inl e1)
                  go_wp2
                  go_ret2
                  exact ⟨ret_ii (hv.out.symm.trans hr.out), hbwr2⟩
                · by_cases e2 : xl.op = 45
                  · have hv : Hid (fnE insP M.pr n f.fn = (0, 0)) := fnE_ok hS0.out hs0.out hi0.out (by rw [hlast.out]; exact .inr (.inl e2))
                    go_wp2
                    go_ret2
                    exact ⟨ret_ii (hv.out.symm.trans hr.out), hbwr2⟩
                  · by_cases e3 : xl.op = 61
                    · have hv : Hid (fnE insP M.pr n f.fn = (0, 0)) := fnE_ok hS0.out hs0.out hi0.out (by rw [hlast.out]; exact .inr (.inr e3))
                      go_wp2
                      go_ret2
                      exact ⟨ret_ii (hv.out.symm.trans hr.out), hbwr2⟩
                    · have hv : Hid (fnE insP M.pr n f.fn = (39, (f.fn.code.length : Int) - 1)) := fnE_fall hS0.out hs0.out hi0.out (by rw [hlast.out]; rintro (h | h | h) <;> omega)
                      go_wp2
                      go_ret2
                      exact ⟨ret_ii (hv.out.symm.trans hr.out), hbwr2⟩
end Go.Proofs.YtafefnkgdnmjbaaGreatDoor.pg.pp
/- The contract of package prog's Check. -/
namespace Go.Proofs.YtafefnkgdnmjbaaGreatDoor.pg.pp
open Go.ChangeShapes Go.WideShapes Go.ChangeAt Go.RowKit
set_option linter.unusedVariables false
set_option linter.unusedSimpArgs false
set_option maxRecDepth 100000
theorem chk_sizes {ins : Pr → Fn → Ins → Int} {P : Pr} {e : Int} (h : sizesE P = e) (he : e ≠ 0) : chk ins P = (e, 0, 0) := by unfold chk; rw [if_neg (by rw [h]; exact he), h]
theorem chk_fns {ins : Pr → Fn → Ins → Int} {P : Pr} (h : sizesE P = 0) : chk ins P = fnsE ins P P.fns 0 := by unfold chk; rw [if_pos h]
theorem ret_chk {a b c a' b' c' : Int} (h : (a, b, c) = (a', b', c')) : Ending.returned (.tuple #[.int .i64 a, .agg #[.int .i64 b, .int .i64 c]]) = .returned (.tuple #[.int .i64 a', .agg #[.int .i64 b', .int .i64 c']]) := by
  cases h; rfl
abbrev objZ : Obj := .cells #[.int .i64 0, .int .i64 0] 82
theorem fns_get (M : MPr) (k : Nat) (x : MFn) (hx : M.fns[k]? = some x) : M.pr.fns[k]? = some x.fn := by simp [MPr.pr, hx]
set_option maxHeartbeats 4000000 in
theorem check_any (M : MPr) (w : World) (hl : M.lies w) (hF : prog.Forms w) (a b c : Int) (hr : Hid (chk insP M.pr = (a, b, c))) :
    Calls Tryz.prog 94 #[M.val] w fun e w' => e = .returned (.tuple #[.int .i64 a, .agg #[.int .i64 b, .int .i64 c]]) ∧ Below w.heap.size w w' := by
  have hb := boxed2 w (objP M) objZ
  have hL := hl.later hb
  have hFW := hF.later hb
  have hln := rows_len hl.2.2.1
  obtain ⟨e, he⟩ : ∃ e, Hid (sizesE M.pr = e) := ⟨_, rfl⟩
  have hcs := checkSizes_any M _ hL e he
  clear hl hF
  go_enter Tryz.func94, Tryz.ntmps94
  by_cases h0 : e = 0
  · subst h0
    have hc0 := chk_fns (ins := insP) he.out
    go_wp2_with (go_at_call 124; (with_reducible refine hcs.mono ?_); rintro e w2 ⟨rfl, hb2⟩; obtain ⟨hbc, hbf⟩ := bcell hb2)
    clear hbc hbf
    go_loopw [17] (fun u wr => ∃ k : Nat, k ≤ M.fns.length ∧ u = .int .i64 k ∧ (∀ j y, j < k → M.fns[j]? = some y → (fnE insP M.pr (0 + j) y.fn).1 = 0) ∧ Below ((w.alloc (objP M)).alloc objZ).heap.size ((w.alloc (objP M)).alloc objZ) wr) (fun u _ => M.fns.length - (intOf u).toNat)
    case atStart => exact ⟨0, Nat.zero_le _, rfl, fun j y hj => by omega, hb2⟩
    case round =>
      obtain ⟨k, hk, rfl, hall, hbr⟩ := hrel
      have hall' : ∀ i f, i < k → M.pr.fns[i]? = some f → (fnE insP M.pr (0 + i) f).1 = 0 := fun i y hi hy => by
        simp only [MPr.pr, List.getElem?_map, Option.map_eq_some_iff] at hy
        obtain ⟨y', hy', rfl⟩ := hy
        exact hall i y' hi hy'
      by_cases hlt : k < M.fns.length
      · obtain ⟨x, hx, hm⟩ := get_lt M.fns k hlt
        obtain ⟨e, q, hE⟩ : ∃ e q, Hid (fnE insP M.pr k x.fn = (e, q)) := ⟨_, _, rfl⟩
        have hcall := checkFunc_any M k x wr e q (hL.later hbr) (hFW.later hbr) hx hE
        by_cases h0 : e = 0
        · subst h0
          obtain ⟨hbc, hbf⟩ := bcell hbr
          go_wp2_with (go_at_call 125; (with_reducible refine hcall.mono ?_); rintro e w3 ⟨rfl, hb3⟩)
          go_roundw
          case rel => exact ⟨k + 1, by omega, by go_num, (fun j y hj hy => by
            by_cases hjk : j = k
            · subst hjk; rw [hx] at hy; cases hy; rw [Nat.zero_add, hE.out]
            · exact hall j y (by omega) hy), bthen hbr hb3⟩
          case measure => simp [intOf]; omega
        · have hv : Hid (chk insP M.pr = (e, (k : Int), q)) := hc0.trans ((fnsE_hit insP M.pr _ 0 k x.fn (fns_get M k x hx) hall' (by rw [Nat.zero_add, hE.out]; exact h0)).trans (by rw [Nat.zero_add, hE.out]))
          have hb4 : Hid (Below w.heap.size w wr) := bthen hb hbr
          obtain ⟨hbc, hbf⟩ := bcell hbr
          go_wp2_with (go_at_call 125; (with_reducible refine hcall.mono ?_); rintro e' w3 ⟨rfl, hb3⟩; (have hb5 := bthen hbr hb3); clear hbc hbf; obtain ⟨hbc, hbf⟩ := bcell hb5)
          exact bodyPost_ret (v := .tuple #[.int .i64 e, .agg #[.int .i64 k, .int .i64 q]]) (by simp [results, Tryz.results94, go_sem, hbc]) rfl ⟨ret_chk (hv.out.symm.trans hr.out), ((bthen hb hb5).setCell (by simp) _).setCell (by simp) _⟩
      · have hv : Hid (chk insP M.pr = (0, 0, 0)) := hc0.trans (fnsE_zero insP M.pr _ 0 fun i f hf => hall' i f (by have := (List.getElem?_eq_some_iff.mp hf).1; simp [MPr.pr] at this; omega) hf)
        obtain ⟨hbc, hbf⟩ := bcell hbr
        go_wp2
        exact bodyPost_ret (v := .tuple #[.int .i64 0, .agg #[.int .i64 0, .int .i64 0]]) (by simp [results, Tryz.results94, go_sem, hbc]) rfl ⟨ret_chk (hv.out.symm.trans hr.out), ((bthen hb hbr).setCell (by simp) _).setCell (by simp) _⟩
  · have hv : Hid (chk insP M.pr = (e, 0, 0)) := chk_sizes he.out h0
    go_wp2_with (go_at_call 124; (with_reducible refine hcs.mono ?_); rintro e w2 ⟨rfl, hb2⟩; obtain ⟨hbc, hbf⟩ := bcell hb2)
    exact bodyPost_ret (v := .tuple #[.int .i64 e, .agg #[.int .i64 0, .int .i64 0]]) (by simp [results, Tryz.results94, go_sem, hbc]) rfl ⟨ret_chk (hv.out.symm.trans hr.out), ((bthen hb hb2).setCell (by simp) _).setCell (by simp) _⟩
end Go.Proofs.YtafefnkgdnmjbaaGreatDoor.pg.pp
