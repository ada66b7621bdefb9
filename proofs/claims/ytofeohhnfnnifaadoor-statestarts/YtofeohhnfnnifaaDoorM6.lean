/- The contract of package prog's look at an instruction. -/
import Derived.Test.YtofeohhnfnnifaaDoorM5
import Derived.Deep.DeepCutAuto
import Derived.Deep.QuietTactic
import Derived.BigQuiet
import Derived.Deep.MidRow
namespace Go.Proofs.YtofeohhnfnnifaaDoor.pg
open Go.ChangeShapes Go.WideShapes Go.ChangeAt Go.RowKit
set_option linter.unusedVariables false
set_option linter.unusedSimpArgs false
set_option maxRecDepth 100000
attribute [local go_sem ↓] Go.wp_at_zero Go.wp_at_succ
/-- What lies in the box of the four operands. -/
def BoxX (w : World) (B : Nat) (x : Ins) : Prop := w.cell? ⟨B, 0, none⟩ = some (.int .i64 x.a) ∧ w.cell? ⟨B, 1, none⟩ = some (.int .i64 x.b) ∧ w.cell? ⟨B, 2, none⟩ = some (.int .i64 x.c) ∧ w.cell? ⟨B, 3, none⟩ = some (.int .i64 x.n)
theorem BoxX.later {w w' : World} {B : Nat} {x : Ins} (h : BoxX w B x) (hb : Below w.heap.size w w') : BoxX w' B x := ⟨cell_later hb h.1, cell_later hb h.2.1, cell_later hb h.2.2.1, cell_later hb h.2.2.2⟩
theorem keepI {W w' : World} {B : Nat} {i : Ins} (h : BoxI W B i) (hb : Below W.heap.size W w') : w'.cell? ⟨B, 0, none⟩ = some (.int .i64 i.op) ∧ w'.cell? ⟨B, 1, none⟩ = some (.int .i64 i.a) ∧ w'.cell? ⟨B, 2, none⟩ = some (.int .i64 i.b) ∧ w'.cell? ⟨B, 3, none⟩ = some (.int .i64 i.c) ∧ w'.cell? ⟨B, 4, none⟩ = some (.int .i64 i.n) ∧ Below W.heap.size W w' :=
  have q := h.later hb
  ⟨q.1, q.2.1, q.2.2.1, q.2.2.2.1, q.2.2.2.2, hb⟩
theorem bcell {W w1 : World} (hb : Below W.heap.size W w1) : (∀ b o, b < W.heap.size → w1.cell? ⟨b, o, none⟩ = W.cell? ⟨b, o, none⟩) ∧ (∀ b o, b < W.heap.size → w1.frozen? ⟨b, o, none⟩ = W.frozen? ⟨b, o, none⟩) :=
  ⟨fun b o h => hb.cell (p := ⟨b, o, none⟩) h, fun b o h => hb.frozen (p := ⟨b, o, none⟩) h⟩
theorem keepO {A B C D E Q : Prop} (h : A ∧ B ∧ C ∧ D ∧ E ∧ Q) : Q := h.2.2.2.2.2
theorem b_alloc {W X : World} (h : Below W.heap.size W X) (o : Obj) : Below W.heap.size W (X.alloc o) := bthen h (boxed X o)
theorem keepA {W w' : World} {B A : Nat} {M : MPr} {f : MFn} {i : Ins} (hP : BoxP W B M) (hF : BoxF W (B + 1) f) (hI : BoxI W (B + 1 + 1) i) (hX : BoxX W A i) (hb : Below W.heap.size W w') :
    w'.cell? ⟨B, 0, none⟩ = some (.slice M.va M.vars.length M.vcap) ∧ w'.cell? ⟨B, 1, none⟩ = some (.int .i64 M.locks) ∧ w'.cell? ⟨B, 2, none⟩ = some (.slice M.cha M.chans.length M.chcap) ∧ w'.cell? ⟨B, 3, none⟩ = some (.slice M.fa M.fns.length M.fcap) ∧ w'.cell? ⟨B + 1, 0, none⟩ = some (.int .i64 f.params) ∧ w'.cell? ⟨B + 1, 1, none⟩ = some (.int .i64 f.regs) ∧ w'.cell? ⟨B + 1, 2, none⟩ = some (.slice f.ca f.code.length f.ccap) ∧ w'.cell? ⟨B + 1, 3, none⟩ = some (.slice f.sa f.sels.length f.scap) ∧ w'.cell? ⟨B + 1 + 1, 0, none⟩ = some (.int .i64 i.op) ∧ w'.cell? ⟨B + 1 + 1, 1, none⟩ = some (.int .i64 i.a) ∧ w'.cell? ⟨B + 1 + 1, 2, none⟩ = some (.int .i64 i.b) ∧ w'.cell? ⟨B + 1 + 1, 3, none⟩ = some (.int .i64 i.c) ∧ w'.cell? ⟨B + 1 + 1, 4, none⟩ = some (.int .i64 i.n) ∧ w'.cell? ⟨A, 0, none⟩ = some (.int .i64 i.a) ∧ w'.cell? ⟨A, 1, none⟩ = some (.int .i64 i.b) ∧ w'.cell? ⟨A, 2, none⟩ = some (.int .i64 i.c) ∧ w'.cell? ⟨A, 3, none⟩ = some (.int .i64 i.n) ∧ Below W.heap.size W w' :=
  have p := hP.later hb
  have q := hF.later hb
  have t := hI.later hb
  have x := hX.later hb
  ⟨p.1, p.2.1, p.2.2.1, p.2.2.2, q.1, q.2.1, q.2.2.1, q.2.2.2, t.1, t.2.1, t.2.2.1, t.2.2.2.1, t.2.2.2.2, x.1, x.2.1, x.2.2.1, x.2.2.2, hb⟩
theorem keepL {A0 A1 A2 A3 A4 A5 A6 A7 A8 A9 A10 A11 A12 A13 A14 A15 A16 Q : Prop} (h : A0 ∧ A1 ∧ A2 ∧ A3 ∧ A4 ∧ A5 ∧ A6 ∧ A7 ∧ A8 ∧ A9 ∧ A10 ∧ A11 ∧ A12 ∧ A13 ∧ A14 ∧ A15 ∧ A16 ∧ Q) : Q := h.2.2.2.2.2.2.2.2.2.2.2.2.2.2.2.2.2
theorem p_room {r : Prop} [Decidable r] {P : Pr} {f : Fn} {i : Ins} (k : Nat) (hall : ∀ j, j < k → opndE r P f (lt i.op j) (i.x j) = 0) (h : lt i.op k = 112) : inR i.b P.fns.length := by
  obtain ⟨rfl, h1⟩ := p_where i.op k h
  have h2 := hall 1 (by omega)
  rw [h1] at h2
  apply Classical.byContradiction
  intro q
  have q' : ¬ inR (i.x 1) P.fns.length := q
  simp only [opndE, Int.reduceEq, false_and, false_or, or_false, or_self, if_false, if_true, if_neg q'] at h2
theorem set_same {w : World} {b j : Nat} {u v : Value} (h : w.cell? ⟨b, j, none⟩ = some u) : (w.setCell ⟨b, j, none⟩ v).cell? ⟨b, j, none⟩ = some v := World.cell?_setCell_same _ _ _ h
theorem set_other {w : World} {b j k : Nat} {v : Value} {r : Option Value} (hjk : j ≠ k) (h : w.cell? ⟨b, k, none⟩ = r) : (w.setCell ⟨b, j, none⟩ v).cell? ⟨b, k, none⟩ = r := by
  rw [World.cell?_setCell_other _ _ _ _ (by simp [hjk])]; exact h
theorem boxX_set {w : World} {A : Nat} {i : Ins} {u0 u1 u2 u3 : Value} (h0 : w.cell? ⟨A, 0, none⟩ = some u0) (h1 : w.cell? ⟨A, 1, none⟩ = some u1) (h2 : w.cell? ⟨A, 2, none⟩ = some u2) (h3 : w.cell? ⟨A, 3, none⟩ = some u3) :
    BoxX ((((w.setCell ⟨A, 0, none⟩ (.int .i64 i.a)).setCell ⟨A, 1, none⟩ (.int .i64 i.b)).setCell ⟨A, 2, none⟩ (.int .i64 i.c)).setCell ⟨A, 3, none⟩ (.int .i64 i.n)) A i :=
  ⟨set_other (by decide) (set_other (by decide) (set_other (by decide) (set_same h0))), set_other (by decide) (set_other (by decide) (set_same (set_other (by decide) h1))),
    set_other (by decide) (set_same (set_other (by decide) (set_other (by decide) h2))), set_same (set_other (by decide) (set_other (by decide) (set_other (by decide) h3)))⟩
theorem byte_str (a : Nat) (h : a < 256) : ((UInt8.ofNat ((a : Int).toNat)).toNat : Int) = (a : Int) := by
  simp only [Int.toNat_natCast, UInt8.toNat_ofNat']
  omega
set_option maxHeartbeats 4000000 in
theorem checkInstr_any (M : MPr) (f : MFn) (i : Ins) (w : World) (r : Int) (hl : M.lies w) (hw : i.wf) (h0 : 0 ≤ f.regs) (h8 : f.regs ≤ 8) (hF : prog.Forms w) (hr : Hid (insP M.pr f.fn i = r)) :
    Calls Tryd.prog 52 #[M.val, f.val, i.val] w fun e w' => e = .returned (.int .i64 r) ∧ Below w.heap.size w w' := by
  have hb1 := boxed w (objP M)
  have hb2 := boxed (w.alloc (objP M)) (objF f)
  have hb3 := boxed ((w.alloc (objP M)).alloc (objF f)) (objI i)
  have hb := boxed3 w (objP M) (objF f) (objI i)
  have bP := ((boxP_new w M).later hb2).later hb3
  have bF := (boxF_new (w.alloc (objP M)) f).later hb3
  have bI := boxI_new ((w.alloc (objP M)).alloc (objF f)) i
  simp only [World.size_alloc] at bF bI
  have hL := hl.later hb
  have hFW := hF.later hb
  have hz : w.heap.size + 1 + 1 < (((w.alloc (objP M)).alloc (objF f)).alloc (objI i)).heap.size := by simp only [World.size_alloc]; omega
  clear hb1 hb2 hb3 hl hF
  obtain ⟨F, hFm⟩ : ∃ F, Hid (prog.frm i.op = F) := ⟨_, rfl⟩
  have hop : I64 i.op := hw.1
  go_enter Tryd.func52, Tryd.ntmps52
  go_upto_region 1 with fail
  generalize ((w.alloc (objP M)).alloc (objF f)).alloc (objI i) = W at *
  have hbI : Hid (BoxI W (w.heap.size + 1 + 1) i) := bI
  obtain ⟨i0, i1, i2, i3, i4⟩ := bI
  go_cut [7, 8] (fun u7 u8 wx => ∃ A, u7 = .string F ∧ u8 = .pointer (some ⟨A, 0, none⟩) ∧ BoxX wx A i ∧ Below W.heap.size W wx)
  case first =>
    go_region_held3 (fun w' => w'.cell? ⟨w.heap.size + 1 + 1, 0, none⟩ = some (.int .i64 i.op) ∧ w'.cell? ⟨w.heap.size + 1 + 1, 1, none⟩ = some (.int .i64 i.a) ∧ w'.cell? ⟨w.heap.size + 1 + 1, 2, none⟩ = some (.int .i64 i.b) ∧ w'.cell? ⟨w.heap.size + 1 + 1, 3, none⟩ = some (.int .i64 i.c) ∧ w'.cell? ⟨w.heap.size + 1 + 1, 4, none⟩ = some (.int .i64 i.n) ∧ Below W.heap.size W w') ((refine keepI hbI.out ?_; repeat (first | exact keepO (by assumption) | assumption | exact Below.refl _ _ | refine Below.drew ?_ | refine b_alloc ?_ _ | (refine Below.setCell ?_ (by simp only [World.size_alloc, World.size_drew]; omega) _))))
      (first | (go_at_call 53; refine (prog.form_any i.op hop.1 hop.2 _ (hFW.later (by first | exact keepO (by assumption) | exact (Below.refl _ _).drew)) F hFm.out).mono ?_; rintro e w' ⟨rfl, rfl⟩) | (go_at_call 65; refine (operands_any i _).mono ?_; rintro e w' ⟨rfl, hb2⟩; obtain ⟨hbc, hbf⟩ := bcell hb2; have hBW : Below W.heap.size W w' := bthen (by first | exact keepO (by assumption) | exact (Below.refl _ _).drew) hb2; have hBs := hBW.size))
    · go_wp2_with fail
      go_meet
      case rel => exact ⟨_, rfl, rfl, ⟨by simp [go_sem], by simp [go_sem], by simp [go_sem], by simp [go_sem]⟩, b_alloc hBW _⟩
    all_goals
      go_wp2_with fail
      go_meet
      case rel =>
        have hA : ∀ j, j < 4 → w'.cell? ⟨W.heap.size, j, none⟩ = some (.int .i64 0) := fun j hj => by
          refine cell_later hb2 ?_
          show (W.alloc _).cell? _ = _
          rw [World.cell?_alloc_at _ _ _ _ rfl]
          match j, hj with
          | 0, _ => rfl
          | 1, _ => rfl
          | 2, _ => rfl
          | 3, _ => rfl
        exact ⟨_, rfl, rfl, boxX_set (hA 0 (by omega)) (hA 1 (by omega)) (hA 2 (by omega)) (hA 3 (by omega)), (((hBW.setCell (Nat.le_refl _) _).setCell (Nat.le_refl _) _).setCell (Nat.le_refl _) _).setCell (Nat.le_refl _) _⟩
  case rest =>
    obtain ⟨A, rfl, rfl, hX, hWc⟩ := hcut
    have hbw : Below w.heap.size w wc := bthen hb hWc
    have hFF := hFm.out
    rw [frm_form] at hFF
    rcases formOf_four i.op with hne | ⟨a0, a1, a2, a3, hf4, q0, q1, q2, q3⟩
    · have hv : Hid (r = 33) := hr.out.symm.trans (insE_op hne)
      rw [hne] at hFF
      subst hFF
      clear hFm
      go_wp2
      go_ret
      exact ⟨ret_i hv.out.symm, hbw⟩
    · have hne : Hid (formOf i.op ≠ []) := by show _ ≠ _; rw [hf4]; simp
      have L0 : Hid (lt i.op 0 = (a0 : Int)) := by show lt i.op 0 = _; unfold lt; rw [hf4]; rfl
      have L1 : Hid (lt i.op 1 = (a1 : Int)) := by show lt i.op 1 = _; unfold lt; rw [hf4]; rfl
      have L2 : Hid (lt i.op 2 = (a2 : Int)) := by show lt i.op 2 = _; unfold lt; rw [hf4]; rfl
      have L3 : Hid (lt i.op 3 = (a3 : Int)) := by show lt i.op 3 = _; unfold lt; rw [hf4]; rfl
      have B0 := byte_str a0 q0
      have B1 := byte_str a1 q1
      have B2 := byte_str a2 q2
      have B3 := byte_str a3 q3
      rw [hf4] at hFF
      simp only [List.map] at hFF
      clear hFm hf4
      generalize UInt8.ofNat ((a0 : Int).toNat) = c0 at *
      generalize UInt8.ofNat ((a1 : Int).toNat) = c1 at *
      generalize UInt8.ofNat ((a2 : Int).toNat) = c2 at *
      generalize UInt8.ofNat ((a3 : Int).toNat) = c3 at *
      subst hFF
      have C0 : ((⟨#[c0, c1, c2, c3]⟩ : ByteArray)[0]'(by show 0 < 4; decide)).toNat = a0 := by show c0.toNat = a0; omega
      have C1 : ((⟨#[c0, c1, c2, c3]⟩ : ByteArray)[1]'(by show 1 < 4; decide)).toNat = a1 := by show c1.toNat = a1; omega
      have C2 : ((⟨#[c0, c1, c2, c3]⟩ : ByteArray)[2]'(by show 2 < 4; decide)).toNat = a2 := by show c2.toNat = a2; omega
      have C3 : ((⟨#[c0, c1, c2, c3]⟩ : ByteArray)[3]'(by show 3 < 4; decide)).toNat = a3 := by show c3.toNat = a3; omega
      clear B0 B1 B2 B3 q0 q1 q2 q3
      have hbX0 : Hid (BoxX wc A i) := hX
      have hbP0 : Hid (BoxP wc w.heap.size M) := bP.later hWc
      have hbF0 : Hid (BoxF wc (w.heap.size + 1) f) := bF.later hWc
      have hbI0 : Hid (BoxI wc (w.heap.size + 1 + 1) i) := hbI.out.later hWc
      have hLc : Hid (M.lies wc) := hL.later hWc
      obtain ⟨x0, x1, x2, x3⟩ := hX
      clear bP bF hL hFW i0 i1 i2 i3 i4 hbI hWc hop hb
      go_wp2
      go_loop [21] (fun u => ∃ k : Nat, k ≤ 4 ∧ u = .int .i64 k ∧ ∀ j, j < k → ¬ (lt i.op j = 45 ∧ i.x j ≠ 0)) (fun u => 4 - (intOf u).toNat)
      case atStart => exact ⟨0, Nat.zero_le _, rfl, fun j hj => by omega⟩
      case round =>
        obtain ⟨k, hk, rfl, hall⟩ := hrel
        by_cases hk4 : k = 4
        · subst hk4
          have hun : Hid (¬ unused i) := fun q => by obtain ⟨j, hj, q⟩ := (unused_iff i).mp q; exact hall j hj q
          clear hall x0 x1 x2 x3
          go_wp2
          go_loopw [37] (fun u wr => ∃ k : Nat, k ≤ 4 ∧ u = .int .i64 k ∧ (∀ j, j < k → opndE (roomP (M.pr.par i.b) i.c f.fn.regs) M.pr f.fn (lt i.op j) (i.x j) = 0) ∧ Below wc.heap.size wc wr) (fun u _ => 4 - (intOf u).toNat)
          case atStart => exact ⟨0, Nat.zero_le _, rfl, (fun j hj => by omega), Below.refl _ _⟩
          case round =>
            obtain ⟨k, hk, rfl, hall, hbr⟩ := hrel
            have hbX : Hid (BoxX wr A i) := hbX0.out.later hbr
            have hbP : Hid (BoxP wr w.heap.size M) := hbP0.out.later hbr
            have hbF : Hid (BoxF wr (w.heap.size + 1) f) := hbF0.out.later hbr
            have hbI' : Hid (BoxI wr (w.heap.size + 1 + 1) i) := hbI0.out.later hbr
            have hLr : M.lies wr := hLc.out.later hbr
            by_cases hk4 : k = 4
            · subst hk4
              have hv : Hid (r = 0) := hr.out.symm.trans (insE_ok hne.out hun.out hall)
              go_wp2
              go_ret
              exact ⟨ret_i hv.out.symm, bthen hbw hbr⟩
            have hk0 : k = 0 ∨ k = 1 ∨ k = 2 ∨ k = 3 := by omega
            rcases hk0 with hk0 | hk1 | hk2 | hk3
            · subst hk0
              obtain ⟨e, he⟩ : ∃ e, Hid (opE M f i i.a (a0 : Int) = e) := ⟨_, rfl⟩
              have he' : Hid (opE M f i (i.x 0) (lt i.op 0) = e) := by show opE M f i i.a (lt i.op 0) = e; rw [L0.out]; exact he.out
              have hp : (a0 : Int) = 112 → 0 ≤ i.b ∧ i.b < (M.fns.length : Int) := fun h => by have := p_room 0 hall (L0.out.trans h); simpa [MPr.pr] using this
              have hcall : ∀ wx, Below wr.heap.size wr wx → Calls Tryd.prog 66 #[M.val, f.val, i.val, .int .u8 (a0 : Int), .int .i64 i.a] wx _ := fun wx hx => checkOperand_any M f i i.a wx e (a0 : Int) (hLr.later hx) hw h0 h8 hp he
              clear he hp hLr
              obtain ⟨p0, p1, p2, p3, f0, f1, f2, f3, i0, i1, i2, i3, i4, x0, x1, x2, x3, _⟩ := keepA hbP.out hbF.out hbI'.out hbX.out (Below.refl _ wr)
              go_wp2_with fail
              go_region_held3 (fun w' => w'.cell? ⟨w.heap.size, 0, none⟩ = some (.slice M.va M.vars.length M.vcap) ∧ w'.cell? ⟨w.heap.size, 1, none⟩ = some (.int .i64 M.locks) ∧ w'.cell? ⟨w.heap.size, 2, none⟩ = some (.slice M.cha M.chans.length M.chcap) ∧ w'.cell? ⟨w.heap.size, 3, none⟩ = some (.slice M.fa M.fns.length M.fcap) ∧ w'.cell? ⟨w.heap.size + 1, 0, none⟩ = some (.int .i64 f.params) ∧ w'.cell? ⟨w.heap.size + 1, 1, none⟩ = some (.int .i64 f.regs) ∧ w'.cell? ⟨w.heap.size + 1, 2, none⟩ = some (.slice f.ca f.code.length f.ccap) ∧ w'.cell? ⟨w.heap.size + 1, 3, none⟩ = some (.slice f.sa f.sels.length f.scap) ∧ w'.cell? ⟨w.heap.size + 1 + 1, 0, none⟩ = some (.int .i64 i.op) ∧ w'.cell? ⟨w.heap.size + 1 + 1, 1, none⟩ = some (.int .i64 i.a) ∧ w'.cell? ⟨w.heap.size + 1 + 1, 2, none⟩ = some (.int .i64 i.b) ∧ w'.cell? ⟨w.heap.size + 1 + 1, 3, none⟩ = some (.int .i64 i.c) ∧ w'.cell? ⟨w.heap.size + 1 + 1, 4, none⟩ = some (.int .i64 i.n) ∧ w'.cell? ⟨A, 0, none⟩ = some (.int .i64 i.a) ∧ w'.cell? ⟨A, 1, none⟩ = some (.int .i64 i.b) ∧ w'.cell? ⟨A, 2, none⟩ = some (.int .i64 i.c) ∧ w'.cell? ⟨A, 3, none⟩ = some (.int .i64 i.n) ∧ Below wr.heap.size wr w') ((refine keepA hbP.out hbF.out hbI'.out hbX.out ?_; repeat (first | exact keepL (by assumption) | assumption | exact Below.refl _ _ | refine Below.drew ?_)))
                (first | (go_at_call 66; refine (hcall _ (by repeat (first | exact keepL (by assumption) | exact Below.refl _ _ | refine Below.drew ?_))).mono ?_; rintro e w' ⟨rfl, hb2⟩; have hBW : Below wr.heap.size wr w' := bthen (by repeat (first | exact keepL (by assumption) | exact Below.refl _ _ | refine Below.drew ?_)) hb2))
              by_cases h00 : e = 0
              · subst h00
                go_wp2
                go_roundw
                case rel => exact ⟨1, by omega, rfl, (fun j hj => by
                  by_cases hj' : j = 0
                  · subst hj'; exact he'.out
                  · exact hall j (by omega)), bthen hbr hBW⟩
                case measure => simp [intOf]
              · have hv : Hid (r = e) := hr.out.symm.trans ((insE_hit hne.out hun.out 0 (by omega) hall (fun q => h00 (he'.out.symm.trans q))).trans he'.out)
                go_wp2
                go_ret
                exact ⟨ret_i hv.out.symm, bthen (bthen hbw hbr) hBW⟩
            · subst hk1
              obtain ⟨e, he⟩ : ∃ e, Hid (opE M f i i.b (a1 : Int) = e) := ⟨_, rfl⟩
              have he' : Hid (opE M f i (i.x 1) (lt i.op 1) = e) := by show opE M f i i.b (lt i.op 1) = e; rw [L1.out]; exact he.out
              have hp : (a1 : Int) = 112 → 0 ≤ i.b ∧ i.b < (M.fns.length : Int) := fun h => by have := p_room 1 hall (L1.out.trans h); simpa [MPr.pr] using this
              have hcall : ∀ wx, Below wr.heap.size wr wx → Calls Tryd.prog 66 #[M.val, f.val, i.val, .int .u8 (a1 : Int), .int .i64 i.b] wx _ := fun wx hx => checkOperand_any M f i i.b wx e (a1 : Int) (hLr.later hx) hw h0 h8 hp he
              clear he hp hLr
              obtain ⟨p0, p1, p2, p3, f0, f1, f2, f3, i0, i1, i2, i3, i4, x0, x1, x2, x3, _⟩ := keepA hbP.out hbF.out hbI'.out hbX.out (Below.refl _ wr)
              go_wp2_with fail
              go_region_held3 (fun w' => w'.cell? ⟨w.heap.size, 0, none⟩ = some (.slice M.va M.vars.length M.vcap) ∧ w'.cell? ⟨w.heap.size, 1, none⟩ = some (.int .i64 M.locks) ∧ w'.cell? ⟨w.heap.size, 2, none⟩ = some (.slice M.cha M.chans.length M.chcap) ∧ w'.cell? ⟨w.heap.size, 3, none⟩ = some (.slice M.fa M.fns.length M.fcap) ∧ w'.cell? ⟨w.heap.size + 1, 0, none⟩ = some (.int .i64 f.params) ∧ w'.cell? ⟨w.heap.size + 1, 1, none⟩ = some (.int .i64 f.regs) ∧ w'.cell? ⟨w.heap.size + 1, 2, none⟩ = some (.slice f.ca f.code.length f.ccap) ∧ w'.cell? ⟨w.heap.size + 1, 3, none⟩ = some (.slice f.sa f.sels.length f.scap) ∧ w'.cell? ⟨w.heap.size + 1 + 1, 0, none⟩ = some (.int .i64 i.op) ∧ w'.cell? ⟨w.heap.size + 1 + 1, 1, none⟩ = some (.int .i64 i.a) ∧ w'.cell? ⟨w.heap.size + 1 + 1, 2, none⟩ = some (.int .i64 i.b) ∧ w'.cell? ⟨w.heap.size + 1 + 1, 3, none⟩ = some (.int .i64 i.c) ∧ w'.cell? ⟨w.heap.size + 1 + 1, 4, none⟩ = some (.int .i64 i.n) ∧ w'.cell? ⟨A, 0, none⟩ = some (.int .i64 i.a) ∧ w'.cell? ⟨A, 1, none⟩ = some (.int .i64 i.b) ∧ w'.cell? ⟨A, 2, none⟩ = some (.int .i64 i.c) ∧ w'.cell? ⟨A, 3, none⟩ = some (.int .i64 i.n) ∧ Below wr.heap.size wr w') ((refine keepA hbP.out hbF.out hbI'.out hbX.out ?_; repeat (first | exact keepL (by assumption) | assumption | exact Below.refl _ _ | refine Below.drew ?_)))
                (first | (go_at_call 66; refine (hcall _ (by repeat (first | exact keepL (by assumption) | exact Below.refl _ _ | refine Below.drew ?_))).mono ?_; rintro e w' ⟨rfl, hb2⟩; have hBW : Below wr.heap.size wr w' := bthen (by repeat (first | exact keepL (by assumption) | exact Below.refl _ _ | refine Below.drew ?_)) hb2))
              by_cases h00 : e = 0
              · subst h00
                go_wp2
                go_roundw
                case rel => exact ⟨2, by omega, rfl, (fun j hj => by
                  by_cases hj' : j = 1
                  · subst hj'; exact he'.out
                  · exact hall j (by omega)), bthen hbr hBW⟩
                case measure => simp [intOf]
              · have hv : Hid (r = e) := hr.out.symm.trans ((insE_hit hne.out hun.out 1 (by omega) hall (fun q => h00 (he'.out.symm.trans q))).trans he'.out)
                go_wp2
                go_ret
                exact ⟨ret_i hv.out.symm, bthen (bthen hbw hbr) hBW⟩
            · subst hk2
              obtain ⟨e, he⟩ : ∃ e, Hid (opE M f i i.c (a2 : Int) = e) := ⟨_, rfl⟩
              have he' : Hid (opE M f i (i.x 2) (lt i.op 2) = e) := by show opE M f i i.c (lt i.op 2) = e; rw [L2.out]; exact he.out
              have hp : (a2 : Int) = 112 → 0 ≤ i.b ∧ i.b < (M.fns.length : Int) := fun h => by have := p_room 2 hall (L2.out.trans h); simpa [MPr.pr] using this
              have hcall : ∀ wx, Below wr.heap.size wr wx → Calls Tryd.prog 66 #[M.val, f.val, i.val, .int .u8 (a2 : Int), .int .i64 i.c] wx _ := fun wx hx => checkOperand_any M f i i.c wx e (a2 : Int) (hLr.later hx) hw h0 h8 hp he
              clear he hp hLr
              obtain ⟨p0, p1, p2, p3, f0, f1, f2, f3, i0, i1, i2, i3, i4, x0, x1, x2, x3, _⟩ := keepA hbP.out hbF.out hbI'.out hbX.out (Below.refl _ wr)
              go_wp2_with fail
              go_region_held3 (fun w' => w'.cell? ⟨w.heap.size, 0, none⟩ = some (.slice M.va M.vars.length M.vcap) ∧ w'.cell? ⟨w.heap.size, 1, none⟩ = some (.int .i64 M.locks) ∧ w'.cell? ⟨w.heap.size, 2, none⟩ = some (.slice M.cha M.chans.length M.chcap) ∧ w'.cell? ⟨w.heap.size, 3, none⟩ = some (.slice M.fa M.fns.length M.fcap) ∧ w'.cell? ⟨w.heap.size + 1, 0, none⟩ = some (.int .i64 f.params) ∧ w'.cell? ⟨w.heap.size + 1, 1, none⟩ = some (.int .i64 f.regs) ∧ w'.cell? ⟨w.heap.size + 1, 2, none⟩ = some (.slice f.ca f.code.length f.ccap) ∧ w'.cell? ⟨w.heap.size + 1, 3, none⟩ = some (.slice f.sa f.sels.length f.scap) ∧ w'.cell? ⟨w.heap.size + 1 + 1, 0, none⟩ = some (.int .i64 i.op) ∧ w'.cell? ⟨w.heap.size + 1 + 1, 1, none⟩ = some (.int .i64 i.a) ∧ w'.cell? ⟨w.heap.size + 1 + 1, 2, none⟩ = some (.int .i64 i.b) ∧ w'.cell? ⟨w.heap.size + 1 + 1, 3, none⟩ = some (.int .i64 i.c) ∧ w'.cell? ⟨w.heap.size + 1 + 1, 4, none⟩ = some (.int .i64 i.n) ∧ w'.cell? ⟨A, 0, none⟩ = some (.int .i64 i.a) ∧ w'.cell? ⟨A, 1, none⟩ = some (.int .i64 i.b) ∧ w'.cell? ⟨A, 2, none⟩ = some (.int .i64 i.c) ∧ w'.cell? ⟨A, 3, none⟩ = some (.int .i64 i.n) ∧ Below wr.heap.size wr w') ((refine keepA hbP.out hbF.out hbI'.out hbX.out ?_; repeat (first | exact keepL (by assumption) | assumption | exact Below.refl _ _ | refine Below.drew ?_)))
                (first | (go_at_call 66; refine (hcall _ (by repeat (first | exact keepL (by assumption) | exact Below.refl _ _ | refine Below.drew ?_))).mono ?_; rintro e w' ⟨rfl, hb2⟩; have hBW : Below wr.heap.size wr w' := bthen (by repeat (first | exact keepL (by assumption) | exact Below.refl _ _ | refine Below.drew ?_)) hb2))
              by_cases h00 : e = 0
              · subst h00
                go_wp2
                go_roundw
                case rel => exact ⟨3, by omega, rfl, (fun j hj => by
                  by_cases hj' : j = 2
                  · subst hj'; exact he'.out
                  · exact hall j (by omega)), bthen hbr hBW⟩
                case measure => simp [intOf]
              · have hv : Hid (r = e) := hr.out.symm.trans ((insE_hit hne.out hun.out 2 (by omega) hall (fun q => h00 (he'.out.symm.trans q))).trans he'.out)
                go_wp2
                go_ret
                exact ⟨ret_i hv.out.symm, bthen (bthen hbw hbr) hBW⟩
            · subst hk3
              obtain ⟨e, he⟩ : ∃ e, Hid (opE M f i i.n (a3 : Int) = e) := ⟨_, rfl⟩
              have he' : Hid (opE M f i (i.x 3) (lt i.op 3) = e) := by show opE M f i i.n (lt i.op 3) = e; rw [L3.out]; exact he.out
              have hp : (a3 : Int) = 112 → 0 ≤ i.b ∧ i.b < (M.fns.length : Int) := fun h => by have := p_room 3 hall (L3.out.trans h); simpa [MPr.pr] using this
              have hcall : ∀ wx, Below wr.heap.size wr wx → Calls Tryd.prog 66 #[M.val, f.val, i.val, .int .u8 (a3 : Int), .int .i64 i.n] wx _ := fun wx hx => checkOperand_any M f i i.n wx e (a3 : Int) (hLr.later hx) hw h0 h8 hp he
              clear he hp hLr
              obtain ⟨p0, p1, p2, p3, f0, f1, f2, f3, i0, i1, i2, i3, i4, x0, x1, x2, x3, _⟩ := keepA hbP.out hbF.out hbI'.out hbX.out (Below.refl _ wr)
              go_wp2_with fail
              go_region_held3 (fun w' => w'.cell? ⟨w.heap.size, 0, none⟩ = some (.slice M.va M.vars.length M.vcap) ∧ w'.cell? ⟨w.heap.size, 1, none⟩ = some (.int .i64 M.locks) ∧ w'.cell? ⟨w.heap.size, 2, none⟩ = some (.slice M.cha M.chans.length M.chcap) ∧ w'.cell? ⟨w.heap.size, 3, none⟩ = some (.slice M.fa M.fns.length M.fcap) ∧ w'.cell? ⟨w.heap.size + 1, 0, none⟩ = some (.int .i64 f.params) ∧ w'.cell? ⟨w.heap.size + 1, 1, none⟩ = some (.int .i64 f.regs) ∧ w'.cell? ⟨w.heap.size + 1, 2, none⟩ = some (.slice f.ca f.code.length f.ccap) ∧ w'.cell? ⟨w.heap.size + 1, 3, none⟩ = some (.slice f.sa f.sels.length f.scap) ∧ w'.cell? ⟨w.heap.size + 1 + 1, 0, none⟩ = some (.int .i64 i.op) ∧ w'.cell? ⟨w.heap.size + 1 + 1, 1, none⟩ = some (.int .i64 i.a) ∧ w'.cell? ⟨w.heap.size + 1 + 1, 2, none⟩ = some (.int .i64 i.b) ∧ w'.cell? ⟨w.heap.size + 1 + 1, 3, none⟩ = some (.int .i64 i.c) ∧ w'.cell? ⟨w.heap.size + 1 + 1, 4, none⟩ = some (.int .i64 i.n) ∧ w'.cell? ⟨A, 0, none⟩ = some (.int .i64 i.a) ∧ w'.cell? ⟨A, 1, none⟩ = some (.int .i64 i.b) ∧ w'.cell? ⟨A, 2, none⟩ = some (.int .i64 i.c) ∧ w'.cell? ⟨A, 3, none⟩ = some (.int .i64 i.n) ∧ Below wr.heap.size wr w') ((refine keepA hbP.out hbF.out hbI'.out hbX.out ?_; repeat (first | exact keepL (by assumption) | assumption | exact Below.refl _ _ | refine Below.drew ?_)))
                (first | (go_at_call 66; refine (hcall _ (by repeat (first | exact keepL (by assumption) | exact Below.refl _ _ | refine Below.drew ?_))).mono ?_; rintro e w' ⟨rfl, hb2⟩; have hBW : Below wr.heap.size wr w' := bthen (by repeat (first | exact keepL (by assumption) | exact Below.refl _ _ | refine Below.drew ?_)) hb2))
              by_cases h00 : e = 0
              · subst h00
                go_wp2
                go_roundw
                case rel => exact ⟨4, by omega, rfl, (fun j hj => by
                  by_cases hj' : j = 3
                  · subst hj'; exact he'.out
                  · exact hall j (by omega)), bthen hbr hBW⟩
                case measure => simp [intOf]
              · have hv : Hid (r = e) := hr.out.symm.trans ((insE_hit hne.out hun.out 3 (by omega) hall (fun q => h00 (he'.out.symm.trans q))).trans he'.out)
                go_wp2
                go_ret
                exact ⟨ret_i hv.out.symm, bthen (bthen hbw hbr) hBW⟩
        have hk0 : k = 0 ∨ k = 1 ∨ k = 2 ∨ k = 3 := by omega
        rcases hk0 with hk0 | hk1 | hk2 | hk3
        · subst hk0
          by_cases h45 : (a0 : Int) = 45
          · by_cases hx0 : i.a = 0
            · go_wp2
              go_round
              case rel => exact ⟨1, by omega, rfl, fun j hj q => by
                by_cases hj' : j = 0
                · subst hj'; exact q.2 hx0
                · exact hall j (by omega) q⟩
              case measure => simp [intOf]
            · have hv : Hid (r = 34) := hr.out.symm.trans (insE_unused hne.out ((unused_iff i).mpr ⟨0, by omega, L0.out.trans h45, hx0⟩))
              go_wp2
              go_ret
              exact ⟨ret_i hv.out.symm, hbw⟩
          · go_wp2
            go_round
            case rel => exact ⟨1, by omega, rfl, fun j hj q => by
              by_cases hj' : j = 0
              · subst hj'; exact h45 (L0.out.symm.trans q.1)
              · exact hall j (by omega) q⟩
            case measure => simp [intOf]
        · subst hk1
          by_cases h45 : (a1 : Int) = 45
          · by_cases hx0 : i.b = 0
            · go_wp2
              go_round
              case rel => exact ⟨2, by omega, rfl, fun j hj q => by
                by_cases hj' : j = 1
                · subst hj'; exact q.2 hx0
                · exact hall j (by omega) q⟩
              case measure => simp [intOf]
            · have hv : Hid (r = 34) := hr.out.symm.trans (insE_unused hne.out ((unused_iff i).mpr ⟨1, by omega, L1.out.trans h45, hx0⟩))
              go_wp2
              go_ret
              exact ⟨ret_i hv.out.symm, hbw⟩
          · go_wp2
            go_round
            case rel => exact ⟨2, by omega, rfl, fun j hj q => by
              by_cases hj' : j = 1
              · subst hj'; exact h45 (L1.out.symm.trans q.1)
              · exact hall j (by omega) q⟩
            case measure => simp [intOf]
        · subst hk2
          by_cases h45 : (a2 : Int) = 45
          · by_cases hx0 : i.c = 0
            · go_wp2
              go_round
              case rel => exact ⟨3, by omega, rfl, fun j hj q => by
                by_cases hj' : j = 2
                · subst hj'; exact q.2 hx0
                · exact hall j (by omega) q⟩
              case measure => simp [intOf]
            · have hv : Hid (r = 34) := hr.out.symm.trans (insE_unused hne.out ((unused_iff i).mpr ⟨2, by omega, L2.out.trans h45, hx0⟩))
              go_wp2
              go_ret
              exact ⟨ret_i hv.out.symm, hbw⟩
          · go_wp2
            go_round
            case rel => exact ⟨3, by omega, rfl, fun j hj q => by
              by_cases hj' : j = 2
              · subst hj'; exact h45 (L2.out.symm.trans q.1)
              · exact hall j (by omega) q⟩
            case measure => simp [intOf]
        · subst hk3
          by_cases h45 : (a3 : Int) = 45
          · by_cases hx0 : i.n = 0
            · go_wp2
              go_round
              case rel => exact ⟨4, by omega, rfl, fun j hj q => by
                by_cases hj' : j = 3
                · subst hj'; exact q.2 hx0
                · exact hall j (by omega) q⟩
              case measure => simp [intOf]
            · have hv : Hid (r = 34) := hr.out.symm.trans (insE_unused hne.out ((unused_iff i).mpr ⟨3, by omega, L3.out.trans h45, hx0⟩))
              go_wp2
              go_ret
              exact ⟨ret_i hv.out.symm, hbw⟩
          · go_wp2
            go_round
            case rel => exact ⟨4, by omega, rfl, fun j hj q => by
              by_cases hj' : j = 3
              · subst hj'; exact h45 (L3.out.symm.trans q.1)
              · exact hall j (by omega) q⟩
            case measure => simp [intOf]
end Go.Proofs.YtofeohhnfnnifaaDoor.pg
/- A region that draws its order, walked once in the order of its text, in every world of a class: reads, and calls that leave a world of the class. -/
namespace Go.Proofs.YtofeohhnfnnifaaDoor.pg
open Go.ChangeShapes Go.WideShapes Go.ChangeAt Go.RowKit
set_option linter.unusedVariables false
/-- A world of a class. -/
structure Cls (S : World → Prop) where
  w : World
  h : S w
theorem wp_region_cls {P : Program} (S : World → Prop) {id : Nat} {Q : Exit → Act → World → Prop} {a : Act} {w : World} {l : List Oper} (hm : P.follows .mixedOrders = true) (hB : Region.lexB .any l.toArray = true) (hS : S w.drew)
    (h : wpQuiet P l.toArray (fun w' => ∃ s : Cls S, w' = s.w) (fun a' => ∀ w', (∃ s : Cls S, w' = s.w) → Q .normal a' w') l a) : (Code.region id l.toArray true).wp P Q a w :=
  wp_region_quiet (C := fun w' => ∃ s : Cls S, w' = s.w) hm hB ⟨⟨_, hS⟩, rfl⟩ (by simpa using h)
/-- A load of many cells at once, in every world of the class. -/
theorem quiet_load_mid {P : Program} {S : World → Prop} {K : Act → Prop} {o : Oper} {a : Act} (ty : TypeId) (x : Operand) (ho : o.op = .load ty x) (b off : Nat) (hx : a.eval x = .pointer (some ⟨b, off, none⟩)) (cs : List Value) (d : TypeDesc) (hS : ∀ s : Cls S, s.w.rangeAt b off cs)
    (hu : P.underlying ty = some d) (hd : d.isRow = true) (hi : (P.info? ty).map (·.size) = some cs.length) (hk : K (a.put o.dst (.agg cs.toArray))) : o.quiet P a (fun w' => ∃ s : Cls S, w' = s.w) K :=
  ⟨_, fun w hw => by
    obtain ⟨s, rfl⟩ := hw
    unfold Oper.quietAt execOp
    simp only [ho, hx, Instr.loadAt, Instr.sureAddr, Sem.run_bind, Sem.run_pure, Result.andThen_ok, run_loadVar_mid s.w b off ty cs d (hS s) hu hd hi]
    exact ⟨rfl, rfl⟩, hk⟩
/-- A callee's contract in the class of all worlds that lie beyond one. -/
theorem calls_cls {P : Program} {f : FuncId} {args : Array Value} {S : World → Prop} {s : Cls S} {v : Value} {R : World → Prop} (h : Calls P f args s.w fun e w' => e = .returned v ∧ R w') (hR : ∀ w', R w' → S w') :
    Calls P f args s.w fun e w'' => e = .returned v ∧ ∃ t : Cls S, w'' = t.w :=
  h.mono fun _ w' ⟨he, hr⟩ => ⟨he, ⟨w', hR w' hr⟩, rfl⟩
/-- All worlds beyond one. -/
abbrev Bey (W : World) : World → Prop := fun w' => Below W.heap.size W w'
theorem bey_some (W : World) : Nonempty (Cls (Bey W)) := ⟨⟨W, Below.refl _ _⟩⟩
theorem bey_drew (W : World) : Bey W W.drew := (Below.refl _ _).drew
theorem calls_bey {P : Program} {f : FuncId} {args : Array Value} {W : World} {s : Cls (Bey W)} {v : Value} (h : Calls P f args s.w fun e w' => e = .returned v ∧ Below s.w.heap.size s.w w') :
    Calls P f args s.w fun e w'' => e = .returned v ∧ ∃ t : Cls (Bey W), w'' = t.w :=
  calls_cls h fun w' hb => bthen s.h hb
theorem bey_cell {W : World} {a : Addr} {v : Value} (h : W.cell? a = some v) (s : Cls (Bey W)) : s.w.cell? a = some v := cell_later s.h h
end Go.Proofs.YtofeohhnfnnifaaDoor.pg
