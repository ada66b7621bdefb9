/- Where package prog's order and the document's own agree on what is right. -/
import Derived.Test.YtafefnkgdnmjbaaGreatDoorM28
import Derived.Test.YtafefnkgdnmjbaaGreatDoorM40
import Derived.Test.YtafefnkgdnmjbaaGreatDoorM42
import Derived.Deep.DeepCutAuto
namespace Go.Proofs.YtafefnkgdnmjbaaGreatDoor.pg
set_option linter.unusedVariables false
theorem par_nonneg (P : Pr) (h : ∀ f ∈ P.fns, 0 ≤ f.params) (b : Int) : 0 ≤ P.par b := by
  unfold Pr.par
  split
  · rename_i f hf
    exact h f (List.mem_of_getElem? hf)
  · exact Int.le_refl 0
theorem room_iff (k c regs : Int) (h : 0 ≤ k) : roomP k c regs ↔ roomR k c regs := by
  unfold roomP roomR
  by_cases h0 : k = 0
  · subst h0
    simp
  · rw [if_neg h0]
    by_cases hc : c < 0
    · rw [if_pos hc]; constructor
      · exact fun q => q.elim
      · intro q; exact q (.inr ⟨by omega, .inl hc⟩)
    · rw [if_neg hc]; constructor
      · intro q; rintro (q' | q') <;> omega
      · intro q
        apply Classical.byContradiction
        intro q'
        exact q (.inr ⟨by omega, .inr (by omega)⟩)
theorem opndE_congr {r r' : Prop} [Decidable r] [Decidable r'] (h : r ↔ r') (P : Pr) (f : Fn) (l x : Int) : opndE r P f l x = opndE r' P f l x := by
  unfold opndE
  by_cases q : r
  · rw [if_pos q, if_pos (h.mp q)]
  · rw [if_neg q, if_neg (fun t => q (h.mpr t))]
theorem insE_congr {r r' : Prop} [Decidable r] [Decidable r'] (h : r ↔ r') (P : Pr) (f : Fn) (i : Ins) : insE r P f i = insE r' P f i := by
  unfold insE
  rw [opndE_congr h, opndE_congr h, opndE_congr h, opndE_congr h]
theorem ins_eq (P : Pr) (h : ∀ f ∈ P.fns, 0 ≤ f.params) (f : Fn) (i : Ins) : insP P f i = insR P f i := insE_congr (room_iff _ _ _ (par_nonneg P h i.b)) P f i
theorem fnE_congr {ins ins' : Pr → Fn → Ins → Int} {P : Pr} (h : ∀ f i, ins P f i = ins' P f i) (n : Nat) (f : Fn) : fnE ins P n f = fnE ins' P n f := by
  have : ins P f = ins' P f := funext fun i => h f i
  unfold fnE; rw [this]
theorem fnsE_congr {ins ins' : Pr → Fn → Ins → Int} {P : Pr} (h : ∀ f i, ins P f i = ins' P f i) (l : List Fn) (n : Nat) : fnsE ins P l n = fnsE ins' P l n := by
  induction l generalizing n with
  | nil => rfl
  | cons x t ih => simp only [fnsE]; rw [fnE_congr h, ih]
/-- Both tell the same of a program none of whose functions has fewer than no parameters. -/
theorem chk_eq (P : Pr) (h : ∀ f ∈ P.fns, 0 ≤ f.params) : chk insP P = chk insR P := by
  unfold chk; rw [fnsE_congr (ins_eq P h)]
theorem fnE_shaped {ins : Pr → Fn → Ins → Int} {P : Pr} {n : Nat} {f : Fn} (h : (fnE ins P n f).1 = 0) : shaped f ∧ (n = 0 → f.params = 0) := by
  apply Classical.byContradiction
  intro q
  unfold fnE at h
  rw [if_neg q] at h
  simp at h
theorem fnsE_each {ins : Pr → Fn → Ins → Int} {P : Pr} (l : List Fn) (j : Nat) (h : (fnsE ins P l j).1 = 0) : ∀ i f, l[i]? = some f → (fnE ins P (j + i) f).1 = 0 := by
  induction l generalizing j with
  | nil => intro i f hf; simp at hf
  | cons x t ih =>
    simp only [fnsE] at h
    by_cases hx : (fnE ins P j x).1 = 0
    · rw [if_pos hx] at h
      intro i f hf
      cases i with
      | zero => simp at hf; subst hf; rw [Nat.add_zero]; exact hx
      | succ i => simp at hf; have := ih (j + 1) h i f hf; rwa [show j + 1 + i = j + (i + 1) by omega] at this
    · rw [if_neg hx] at h; exact absurd h hx
theorem chk_sizes0 {ins : Pr → Fn → Ins → Int} {P : Pr} (h : (chk ins P).1 = 0) : sizesE P = 0 := by
  apply Classical.byContradiction
  intro q
  unfold chk at h
  rw [if_neg q] at h
  exact q h
theorem chk_each {ins : Pr → Fn → Ins → Int} {P : Pr} (h : (chk ins P).1 = 0) (i : Nat) (f : Fn) (hf : P.fns[i]? = some f) : (fnE ins P i f).1 = 0 := by
  have h0 := chk_sizes0 h
  unfold chk at h
  rw [if_pos h0] at h
  have := fnsE_each P.fns 0 h i f hf
  rwa [Nat.zero_add] at this
theorem chk_shaped {ins : Pr → Fn → Ins → Int} {P : Pr} (h : (chk ins P).1 = 0) (f : Fn) (hf : f ∈ P.fns) : shaped f := by
  obtain ⟨i, hi, rfl⟩ := List.getElem_of_mem hf
  exact (fnE_shaped (chk_each h i _ (List.getElem?_eq_getElem hi))).1
/-- A program is right. -/
def right (P : Pr) : Prop := (chk insP P).1 = 0
theorem right_iff (P : Pr) : (chk insP P).1 = 0 ↔ (chk insR P).1 = 0 := by
  constructor
  · intro h; rw [← chk_eq P (fun f hf => (chk_shaped h f hf).2.1.1)]; exact h
  · intro h; rw [chk_eq P (fun f hf => (chk_shaped h f hf).2.1.1)]; exact h
theorem sizes_ok {P : Pr} (h : sizesE P = 0) : P.vars.length ≤ 8 ∧ (0 ≤ P.locks ∧ P.locks ≤ 4) ∧ P.chans.length ≤ 4 ∧ (1 ≤ P.fns.length ∧ P.fns.length ≤ 8) := by
  apply Classical.byContradiction
  intro q
  unfold sizesE at h
  rw [if_neg q] at h
  simp at h
end Go.Proofs.YtafefnkgdnmjbaaGreatDoor.pg
/- Programs and traces that are not right: the document's Fit; package race's Races of them; two lists of what is found compared. -/
namespace Go.Proofs.YtafefnkgdnmjbaaGreatDoor.pg
open Go.ChangeShapes Go.WideShapes Go.ChangeAt Go.RowKit Go.Shelf
set_option linter.unusedVariables false
set_option linter.unusedSimpArgs false
set_option maxRecDepth 100000
attribute [local go_sem] Oper.semAt_some
attribute [local go_sem ↓] Go.wp_at_zero Go.wp_at_succ
set_option maxHeartbeats 1000000 in
theorem fit_prog (M : MPr) (la : Option Addr) (ln lc : Nat) (w : World) (hM : M.lies w) (hr : (chk insR M.pr).1 ≠ 0) : Calls Tryz.prog 22 #[M.val, .slice la ln lc] w fun e w' => e = .returned (.int .i64 3) ∧ Below w.heap.size w w' := by
  have cR : ∀ wx, Below w.heap.size w wx → Calls Tryz.prog 35 #[M.val] wx fun e w' => e = .returned (.bool false) ∧ Below wx.heap.size wx w' := fun wx hb => pp.rright_any M wx (hM.later hb) false (show _ = _ from decide_eq_false hr)
  clear hM hr
  go_enter Tryz.func22, Tryz.ntmps22
  go_wp2_with (go_at_call 35; (with_reducible refine (cR _ (boxed _ _)).mono ?_); rintro e w1 ⟨rfl, hb1⟩; (have hB : Hid (Below w.heap.size w w1) := bthen (boxed _ _) hb1); clear hb1)
  go_ret
  exact ⟨rfl, hB.out⟩
set_option maxHeartbeats 1000000 in
theorem fit_ev (M : MPr) (l : List Ev) (la : Option Addr) (lc : Nat) (w : World) (hM : M.lies w) (hr : (chk insR M.pr).1 = 0) (hl : Rows w 26 la lc (l.map Ev.cells)) (c : Int) (hc : checkP l c) : Calls Tryz.prog 22 #[M.val, .slice la l.length lc] w fun e w' => e = .returned (.int .i64 c) ∧ Below w.heap.size w w' := by
  have cR : ∀ wx, Below w.heap.size w wx → Calls Tryz.prog 35 #[M.val] wx fun e w' => e = .returned (.bool true) ∧ Below wx.heap.size wx w' := fun wx hb => pp.rright_any M wx (hM.later hb) true (show _ = _ from decide_eq_true hr)
  have cC : ∀ wx, Below w.heap.size w wx → Calls Tryz.prog 10 #[.slice la l.length lc] wx fun e w' => e = .returned (.int .i64 c) ∧ Below wx.heap.size wx w' := fun wx hb => rcheck_any l la lc wx (hl.later hb) c hc
  clear hM hr hl hc
  go_enter Tryz.func22, Tryz.ntmps22
  go_wp2_with (first
    | (go_at_call 35; (with_reducible refine (cR _ (boxed _ _)).mono ?_); rintro e w1 ⟨rfl, hb1⟩; (have hB : Hid (Below w.heap.size w w1) := bthen (boxed _ _) hb1); clear hb1)
    | (go_at_call 10; (with_reducible refine (cC _ hB.out).mono ?_); rintro e w2 ⟨rfl, hb2⟩; (have hB2 : Hid (Below w.heap.size w w2) := bthen hB.out hb2); clear hb2))
  go_ret
  exact ⟨rfl, hB2.out⟩
end Go.Proofs.YtafefnkgdnmjbaaGreatDoor.pg
/- The races as they are found, by the document's own. -/
namespace Go.Proofs.YtafefnkgdnmjbaaGreatDoor.pg
open Go.ChangeShapes Go.WideShapes Go.ChangeAt Go.RowKit Go.Shelf
set_option linter.unusedVariables false
set_option linter.unusedSimpArgs false
set_option maxRecDepth 100000
attribute [local go_sem ↓] Go.wp_at_zero Go.wp_at_succ
abbrev obSp (f p : Int) : Obj := .cells #[.int .i64 f, .int .i64 p] 82
/-- How Races stands. -/
structure RcS (w W : World) (M : MPr) (E : List (Nat × Nat)) (ea : Option Addr) (ec : Nat) (o : List Fd) (va : Option Addr) (vc : Nat) : Prop where
  p : W.heap[w.heap.size]? = some (objP M)
  e : Rows W 2 ea ec (E.map edg)
  o : Rows W 7 va vc (o.map Fd.cells)
  b : Below w.heap.size w W
theorem RcS.later {w W W' : World} {M : MPr} {E : List (Nat × Nat)} {ea : Option Addr} {ec : Nat} {o : List Fd} {va : Option Addr} {vc : Nat} (h : RcS w W M E ea ec o va vc) (hb : Below W.heap.size W W') : RcS w W' M E ea ec o va vc := ⟨blk_onR h.p hb, h.e.later hb, h.o.later hb, bthen h.b hb⟩
theorem fdR_is (f p f2 p2 : Int) : (decide (f2 < f) = true ∨ (f2 == f) = true ∧ decide (p2 < p) = true) → ∀ n, fdR f p f2 p2 n = ⟨5, f2, p2, f, p, n, 0⟩ := fun h n => by
  have : 0 < orV (cmpV f f2) (cmpV p p2) := by
    simp only [decide_eq_true_eq, beq_iff_eq] at h
    unfold orV cmpV
    (repeat' split) <;> omega
  unfold fdR
  rw [if_pos this]
theorem fdR_no (f p f2 p2 : Int) (h1 : decide (f2 < f) = false) (h2 : (f2 == f) = false ∨ decide (p2 < p) = false) : ∀ n, fdR f p f2 p2 n = ⟨5, f, p, f2, p2, n, 0⟩ := fun n => by
  have : ¬ 0 < orV (cmpV f f2) (cmpV p p2) := by
    simp only [decide_eq_false_iff_not, beq_eq_false_iff_ne, ne_eq] at h1 h2
    unfold orV cmpV
    (repeat' split) <;> omega
  unfold fdR
  rw [if_neg this]
theorem ouF_wf {vars : List Vr} (h8 : vars.length ≤ 8) {l : List Ev} (hw : ∀ x ∈ l, x.wf) {D : List (Nat × Nat)} (hin : ∀ p ∈ D, p.1 < p.2 ∧ p.2 < l.length) (k : Nat) : ∀ x ∈ ouF vars l D k, x.wf := fun x hx => by
  obtain ⟨i, p, _, hp, n, hn, _, rfl⟩ := (ouF_mem vars l D x k).mp hx
  obtain ⟨q1, q2⟩ := hin p (List.mem_of_getElem? hp)
  have w1 := hw _ (List.mem_of_getElem? (evf_at (l := l) (i := p.1) (by omega)))
  have w2 := hw _ (List.mem_of_getElem? (evf_at (l := l) (i := p.2) q2))
  exact fdR_wf w1.1.2.1 w1.1.2.2.1 w2.1.2.1 w2.1.2.2.1 ⟨by omega, by omega⟩
theorem inF_wf {vars : List Vr} (h8 : vars.length ≤ 8) {x y : Ev} (hx : x.wf) (hy : y.wf) {o : List Fd} (ho : ∀ z ∈ o, z.wf) (k : Nat) (hk : k ≤ vars.length) : ∀ z ∈ inF vars x y o k, z.wf := fun z hz => by
  rcases (inF_mem vars x y o z k).mp hz with q | ⟨n, hn, _, rfl⟩
  · exact ho z q
  · exact fdR_wf hx.1.2.1 hx.1.2.2.1 hy.1.2.1 hy.1.2.2.1 ⟨by omega, by omega⟩
theorem ouF_next {vars : List Vr} {l : List Ev} {D : List (Nat × Nat)} {k : Nat} {p : Nat × Nat} (h : D[k]? = some p) : ouF vars l D (k + 1) = inF vars (evf l p.1) (evf l p.2) (ouF vars l D k) vars.length := by
  rw [ouF, h]
theorem lenFd (L : List Fd) : ∀ row ∈ L.map Fd.cells, row.length = 7 := fun row h => by
  rw [List.mem_map] at h
  obtain ⟨x, _, rfl⟩ := h
  rfl
theorem at_storeR {P : Program} {ops : Array Oper} {rest : List Oper} {op : Oper} {a : Act} {w : World} {Q : Exit → Act → World → Prop} (ty : TypeId) (x y : Operand) (ho : op.op = .store ty x y) (h : StopR (wpList P ops Q (op :: rest) a w)) : wpList P ops Q (op :: rest) a w := h
theorem rows_off {W : World} {k C : Nat} {cs : Array Value} {a : Option Addr} {cap : Nat} {L : List (List Value)} (h : Rows W k a cap L) (hC : ∀ b off, a = some ⟨b, off, none⟩ → b ≠ C) : Rows (W.setRow C cs) k a cap L := by
  obtain ⟨h1, h2, h3, h4⟩ := h
  refine ⟨h1, h2, h3, h4.imp_right fun ⟨b, off, ha, hlt, hcc⟩ => ⟨b, off, ha, by rw [setRow_size]; exact hlt, fun i row hi => ⟨(hcc i row hi).1, fun j u hj => ?_⟩⟩⟩
  have := (hcc i row hi).2 j u hj
  rw [← this, World.cell?, World.cell?, setRow_other W C b cs (hC b off ha)]
theorem rc_set {w W wc : World} {M : MPr} {E : List (Nat × Nat)} {ea : Option Addr} {ec : Nat} {o : List Fd} {va : Option Addr} {vc C : Nat} {cs : Array Value} (h0 : RcS w wc M E ea ec o va vc) (h : RcS w W M E ea ec o va vc) (hC : wc.heap.size ≤ C) : RcS w (W.setRow C cs) M E ea ec o va vc := by
  have hp := (Array.getElem?_eq_some_iff.mp h0.p).1
  have off : ∀ {k : Nat} {a : Option Addr} {cap : Nat} {L : List (List Value)}, Rows wc k a cap L → Rows W k a cap L → Rows (W.setRow C cs) k a cap L := fun {k a cap L} g0 g => by
    rcases g0.2.2.2 with e | ⟨b, off, ha, hlt, _⟩
    · obtain ⟨h1, h2, h3, _⟩ := g
      exact ⟨h1, h2, h3, .inl e⟩
    · exact rows_off g fun b' off' e => by rw [ha] at e; cases e; omega
  exact ⟨(setRow_other _ _ _ _ (by omega)).trans h.p, off h0.e h.e, off h0.o h.o, below_setRow h.b (by have := h0.b.size; omega) _⟩
theorem zeroSpR : ∀ w, (zeroValue 82).run Tryz.prog w = .ok (.agg #[.int .i64 0, .int .i64 0]) w := fun w => by kernel_rfl
theorem infoSpR : (Tryz.prog.info? 82).map (·.size) = some 2 := by kernel_rfl
theorem rc_swap {w wc wd V1 V2 : World} {M : MPr} {E : List (Nat × Nat)} {ea : Option Addr} {ec : Nat} {o : List Fd} {va : Option Addr} {vc A10 A11 A12 A13 : Nat} {X Y : Ev} (h0 : RcS w wc M E ea ec o va vc) (h : RcS w wd M E ea ec o va vc) (hc : wd.heap[A10]? = some (objEv X) ∧ wd.heap[A11]? = some (objEv Y) ∧ A10 < wc.heap.size ∧ A11 < wc.heap.size)
    (hd : wd.heap[A12]? = some (obSp X.fn X.pc) ∧ wd.heap[A13]? = some (obSp Y.fn Y.pc) ∧ wc.heap.size ≤ A12 ∧ wc.heap.size ≤ A13 ∧ A12 ≠ A13 ∧ Below wc.heap.size wc wd) (e1 : V1 = wd.setRow A12 #[.int .i64 Y.fn, .int .i64 Y.pc]) (e2 : V2 = V1.setRow A13 #[.int .i64 X.fn, .int .i64 X.pc]) :
    RcS w V2 M E ea ec o va vc ∧ V2.heap[A10]? = some (objEv X) ∧ V2.heap[A11]? = some (objEv Y) ∧ V2.heap[A12]? = some (obSp Y.fn Y.pc) ∧ V2.heap[A13]? = some (obSp X.fn X.pc) := by
  obtain ⟨c1, c2, c3, c4⟩ := hc
  obtain ⟨d1, d2, d3, d4, d5, d6⟩ := hd
  have r1 : RcS w V1 M E ea ec o va vc := by rw [e1]; exact rc_set h0 h d3
  have k1 : ∀ b, b ≠ A12 → V1.heap[b]? = wd.heap[b]? := fun b q => by rw [e1]; exact setRow_other _ _ _ _ q
  have k2 : ∀ b, b ≠ A13 → V2.heap[b]? = V1.heap[b]? := fun b q => by rw [e2]; exact setRow_other _ _ _ _ q
  refine ⟨by rw [e2]; exact rc_set h0 r1 d4, (k2 _ (by omega)).trans ((k1 _ (by omega)).trans c1), (k2 _ (by omega)).trans ((k1 _ (by omega)).trans c2), (k2 _ d5).trans ?_, ?_⟩
  · rw [e1]; exact setRow_heap _ _ _ _ _ _ d1
  · rw [e2]; exact setRow_heap _ _ _ _ _ _ ((k1 _ (Ne.symm d5)).trans d2)
set_option maxHeartbeats 16000000 in
theorem rraces_ok (M : MPr) (l : List Ev) (la : Option Addr) (lc : Nat) (w : World) (hM : M.lies w) (hr : (chk insR M.pr).1 = 0) (h8 : M.vars.length ≤ 8) (hl : Rows w 26 la lc (l.map Ev.cells)) (hlen : l.length ≤ 256) (hrt : ∀ x ∈ l, rightP x) (hwf : ∀ x ∈ l, x.wf) (B : Nat → Nat → Bool) (hB : Tells (dpf l) B)
    (E : List (Nat × Nat)) (hE : E = (rcL B l fun _ _ => true).filter fun p => anyB M.vars (evf l p.1) (evf l p.2)) :
    Calls Tryz.prog 16 #[M.val, .slice la l.length lc] w fun e w' => ∃ va vc, e = .returned (.tuple #[.slice va (ouF M.vars l E E.length).length vc, .int .i64 0]) ∧ Rows w' 7 va vc ((ouF M.vars l E E.length).map Fd.cells) ∧ Below w.heap.size w w' := by
  have cF : ∀ wx, Below w.heap.size w wx → Calls Tryz.prog 22 #[M.val, .slice la l.length lc] wx fun e w' => e = .returned (.int .i64 0) ∧ Below wx.heap.size wx w' := fun wx hb => fit_ev M l la lc wx (hM.later hb) hr (hl.later hb) 0 (.inr (.inr ⟨hlen, hrt, rfl⟩))
  have cD : ∀ wx, Below w.heap.size w wx → Calls Tryz.prog 18 #[M.val, .slice la l.length lc] wx fun e w' => ∃ va vc, e = .returned (.slice va E.length vc) ∧ Rows w' 2 va vc (E.map edg) ∧ Below wx.heap.size wx w' := fun wx hb => by (rw [hE]; exact rdata_any M l la lc wx (hM.later hb) h8 (hl.later hb) hlen B hB)
  have hin : Hid (∀ p ∈ E, p.1 < p.2 ∧ p.2 < l.length) := fun p hp => by (rw [hE] at hp; exact edL_in (List.mem_filter.mp (List.mem_filter.mp hp).1).1)
  have hEl : E.length ≤ 65536 := by (rw [hE]; exact Nat.le_trans (List.length_filter_le _ _) (Nat.le_trans (List.length_filter_le _ _) (edL_len hlen)))
  have hEI : (E.length : Int) ≤ 65536 := by omega
  have hMH : Hid (M.lies w) := hM
  have hlH : Hid (Rows w 26 la lc (l.map Ev.cells)) := hl
  have hrH : Hid (∀ x ∈ l, rightP x) := hrt
  have hwH : Hid (∀ x ∈ l, x.wf) := hwf
  have h8H : Hid (M.vars.length ≤ 8) := h8
  have hvI : (M.vars.length : Int) ≤ 8 := by omega
  have huE : Hid (Tryz.prog.underlying 69 = _) := Tryz.underlying69
  have hp0 : Hid ((w.alloc (objP M)).heap[w.heap.size]? = some (objP M)) := heap_alloc_new _ _
  clear hM hr h8 hl hlen hrt hwf hB hE
  go_enter Tryz.func16, Tryz.ntmps16
  go_wp2_with (first
    | (go_at_call 22; (with_reducible refine (cF _ (boxed _ _)).mono ?_); rintro e w1 ⟨rfl, hb1⟩; (have s1 : Hid (w1.heap[w.heap.size]? = some (objP M) ∧ Below w.heap.size w w1) := ⟨blk_onR hp0.out hb1, bthen (boxed _ _) hb1⟩); (obtain ⟨k0, k1, k2, k3⟩ := p4 s1.out.1); clear hb1 cF)
    | (go_at_call 18; (with_reducible refine (cD _ s1.out.2).mono ?_); rintro e w2 ⟨ea, ec, rfl, hr2, hb2⟩; (have s2 : Hid (RcS w w2 M E ea ec (ouF M.vars l E 0) none 0) := ⟨blk_onR s1.out.1 hb2, hr2, ⟨by simp [ouF], by omega, fun _ => ⟨rfl, rfl⟩, .inl rfl⟩, bthen s1.out.2 hb2⟩); clear hb2 hr2 s1 cD k0 k1 k2 k3))
  clear hp0
  go_loopw [7, 9] (fun u7 u9 wr => ∃ (i : Nat) (va : Option Addr) (vc : Nat), i ≤ E.length ∧ u9 = .int .i64 (i : Int) ∧ u7 = .slice va (ouF M.vars l E i).length vc ∧ Hid (RcS w wr M E ea ec (ouF M.vars l E i) va vc)) (fun _ u9 _ => E.length - (intOf u9).toNat)
  case atStart => exact ⟨0, none, 0, Nat.zero_le _, rfl, rfl, s2⟩
  case round =>
    obtain ⟨i, va, vc, hi, rfl, rfl, st⟩ := hrel
    clear s2
    by_cases hlt : i < E.length
    · have hiI : (i : Int) < E.length := by omega
      obtain ⟨⟨pi, pj⟩, hp⟩ : ∃ p, E[i]? = some p := ⟨_, List.getElem?_eq_getElem hlt⟩
      obtain ⟨q1, q2⟩ := hin.out (pi, pj) (List.mem_of_getElem? hp)
      have hpi : pi < l.length := by simp only at q1 q2; omega
      have hpj : pj < l.length := q2
      have hnx : Hid (ouF M.vars l E (i + 1) = inF M.vars (evf l pi) (evf l pj) (ouF M.vars l E i) M.vars.length) := ouF_next hp
      have hX : Hid ((evf l pi).wf ∧ (evf l pj).wf) := ⟨hwH.out _ (List.mem_of_getElem? (evf_at hpi)), hwH.out _ (List.mem_of_getElem? (evf_at hpj))⟩
      have hOw : Hid (∀ x ∈ ouF M.vars l E i, x.wf) := ouF_wf h8H.out hwH.out hin.out i
      have hOl : Hid ((ouF M.vars l E i).length ≤ 8 * i) := ouF_len h8H.out l E i
      have hi6 : Hid (i < 65536) := by (show _ < _; omega)
      obtain ⟨bp, op, xp, hbp, rp⟩ := pr_at st.out.e hp
      obtain ⟨bi, oi, xi, hbi, ri⟩ := ev_at l la lc (hlH.out.later st.out.b) (i := pi) (evf_at hpi)
      obtain ⟨bj, oj, xj, hbj, rj⟩ := ev_at l la lc (hlH.out.later st.out.b) (i := pj) (evf_at hpj)
      have i0 : ∀ wx, (Instr.indexAt 71 (.pointer (some ⟨bp, op, none⟩)) (.int .i64 0)).run Tryz.prog wx = .ok (.pointer (some ⟨bp, op + 0, none⟩)) wx := ix2m bp op 0 (by omega)
      have i1 : ∀ wx, (Instr.indexAt 71 (.pointer (some ⟨bp, op, none⟩)) (.int .i64 1)).run Tryz.prog wx = .ok (.pointer (some ⟨bp, op + 1, none⟩)) wx := ix2m bp op 1 (by omega)
      have hcp : Hid (∀ w', Below wr.heap.size wr w' → w'.cell? ⟨bp, op + 0, none⟩ = some (.int .i64 (pi : Int)) ∧ w'.cell? ⟨bp, op + 1, none⟩ = some (.int .i64 (pj : Int))) := fun w' h => by
        have rr := range_block rp (h.block bp hbp)
        exact ⟨rr 0 _ rfl, rr 1 _ rfl⟩
      have hev : Hid (∀ w', Below wr.heap.size wr w' → w'.rangeAt bi oi (evf l pi).cells ∧ w'.rangeAt bj oj (evf l pj).cells) := fun w' h => ⟨range_block ri (h.block bi hbi), range_block rj (h.block bj hbj)⟩
      obtain ⟨zE, hzl, hzv⟩ := zeroEvR
      clear rp hbp ri rj hbi hbj hp q1 q2 hpi hpj
      generalize evf l pi = X at *
      generalize evf l pj = Y at *
      generalize ouF M.vars l E i = o0 at *
      have hS : Hid (Below wr.heap.size wr wr.drew) := bey_drew wr
      go_upto_region 9 with fail
      go_cut [10, 11] from 24 to 94 (fun u10 u11 wx => ∃ A10 A11, u10 = .pointer (some ⟨A10, 0, none⟩) ∧ u11 = .pointer (some ⟨A11, 0, none⟩) ∧ Hid (Below wr.heap.size wr wx ∧ wx.heap[A10]? = some (objEv X) ∧ wx.heap[A11]? = some (objEv Y)))
      case first =>
        refine wp_region_noPanic ?_
        refine wp_region_held_drew (S := fun w' => Below wr.heap.size wr w') (by kernel_rfl) hS.out (fun _ => ?_)
        refine reg_move (i := 0) rfl (by kernel_rfl) (by kernel_rfl) (by kernel_rfl) (fun _ _ _ _ h => h) rfl (.slice la l.length lc) (fun _ => rfl) hS.out ?_
        simp only [Act.put, List.getElem_toArray, List.getElem_cons_succ, List.getElem_cons_zero, List.setIfInBounds_toArray, List.set_cons_zero, List.set_cons_succ]
        refine reg_move (i := 1) rfl (by kernel_rfl) (by kernel_rfl) (by kernel_rfl) (fun _ _ _ _ h => h) rfl (.slice ea E.length ec) (fun _ => rfl) hS.out ?_
        simp only [Act.put, List.getElem_toArray, List.getElem_cons_succ, List.getElem_cons_zero, List.setIfInBounds_toArray, List.set_cons_zero, List.set_cons_succ]
        refine reg_move (i := 2) rfl (by kernel_rfl) (by kernel_rfl) (by kernel_rfl) (fun _ _ _ _ h => h) rfl (.int .i64 (i : Int)) (fun _ => rfl) hS.out ?_
        simp only [Act.put, List.getElem_toArray, List.getElem_cons_succ, List.getElem_cons_zero, List.setIfInBounds_toArray, List.set_cons_zero, List.set_cons_succ]
        refine reg_move (i := 3) rfl (by kernel_rfl) (by kernel_rfl) (by kernel_rfl) (fun _ _ _ _ h => h) rfl (.pointer (some ⟨bp, op, none⟩)) (fun wx => by unfold execOp; exact run_value_of (xp wx)) hS.out ?_
        simp only [Act.put, List.getElem_toArray, List.getElem_cons_succ, List.getElem_cons_zero, List.setIfInBounds_toArray, List.set_cons_zero, List.set_cons_succ]
        refine reg_move (i := 4) rfl (by kernel_rfl) (by kernel_rfl) (by kernel_rfl) (fun _ _ _ _ h => h) rfl (.pointer (some ⟨bp, op + 0, none⟩)) (fun wx => by unfold execOp; exact run_value_of (i0 wx)) hS.out ?_
        simp only [Act.put, List.getElem_toArray, List.getElem_cons_succ, List.getElem_cons_zero, List.setIfInBounds_toArray, List.set_cons_zero, List.set_cons_succ]
        refine reg_load1 (i := 5) rfl (by kernel_rfl) (by kernel_rfl) (by kernel_rfl) (fun _ _ _ _ h => h) rfl 3 _ rfl ⟨bp, op + 0, none⟩ rfl _ Tryz.underlying3 rfl (.int .i64 (pi : Int)) (fun w' h' => (hcp.out w' h').1) hS.out ?_
        simp only [Act.put, List.getElem_toArray, List.getElem_cons_succ, List.getElem_cons_zero, List.setIfInBounds_toArray, List.set_cons_zero, List.set_cons_succ]
        refine reg_move (i := 6) rfl (by kernel_rfl) (by kernel_rfl) (by kernel_rfl) (fun _ _ _ _ h => h) rfl (.pointer (some ⟨bi, oi, none⟩)) (fun wx => by unfold execOp; exact run_value_of (xi wx)) hS.out ?_
        simp only [Act.put, List.getElem_toArray, List.getElem_cons_succ, List.getElem_cons_zero, List.setIfInBounds_toArray, List.set_cons_zero, List.set_cons_succ]
        refine reg_load (i := 7) rfl (by kernel_rfl) (by kernel_rfl) (by kernel_rfl) (fun _ _ _ _ h => h) rfl 69 _ rfl bi oi rfl X.cells _ (fun w' h' => (hev.out w' h').1) Tryz.underlying69 rfl infoE26 hS.out ?_
        simp only [Act.put, List.getElem_toArray, List.getElem_cons_succ, List.getElem_cons_zero, List.setIfInBounds_toArray, List.set_cons_zero, List.set_cons_succ]
        refine reg_move (i := 8) rfl (by kernel_rfl) (by kernel_rfl) (by kernel_rfl) (fun _ _ _ _ h => h) rfl (.slice la l.length lc) (fun _ => rfl) hS.out ?_
        simp only [Act.put, List.getElem_toArray, List.getElem_cons_succ, List.getElem_cons_zero, List.setIfInBounds_toArray, List.set_cons_zero, List.set_cons_succ]
        refine reg_move (i := 9) rfl (by kernel_rfl) (by kernel_rfl) (by kernel_rfl) (fun _ _ _ _ h => h) rfl (.slice ea E.length ec) (fun _ => rfl) hS.out ?_
        simp only [Act.put, List.getElem_toArray, List.getElem_cons_succ, List.getElem_cons_zero, List.setIfInBounds_toArray, List.set_cons_zero, List.set_cons_succ]
        refine reg_move (i := 10) rfl (by kernel_rfl) (by kernel_rfl) (by kernel_rfl) (fun _ _ _ _ h => h) rfl (.int .i64 (i : Int)) (fun _ => rfl) hS.out ?_
        simp only [Act.put, List.getElem_toArray, List.getElem_cons_succ, List.getElem_cons_zero, List.setIfInBounds_toArray, List.set_cons_zero, List.set_cons_succ]
        refine reg_move (i := 11) rfl (by kernel_rfl) (by kernel_rfl) (by kernel_rfl) (fun _ _ _ _ h => h) rfl (.pointer (some ⟨bp, op, none⟩)) (fun wx => by unfold execOp; exact run_value_of (xp wx)) hS.out ?_
        simp only [Act.put, List.getElem_toArray, List.getElem_cons_succ, List.getElem_cons_zero, List.setIfInBounds_toArray, List.set_cons_zero, List.set_cons_succ]
        refine reg_move (i := 12) rfl (by kernel_rfl) (by kernel_rfl) (by kernel_rfl) (fun _ _ _ _ h => h) rfl (.pointer (some ⟨bp, op + 1, none⟩)) (fun wx => by unfold execOp; exact run_value_of (i1 wx)) hS.out ?_
        simp only [Act.put, List.getElem_toArray, List.getElem_cons_succ, List.getElem_cons_zero, List.setIfInBounds_toArray, List.set_cons_zero, List.set_cons_succ]
        refine reg_load1 (i := 13) rfl (by kernel_rfl) (by kernel_rfl) (by kernel_rfl) (fun _ _ _ _ h => h) rfl 3 _ rfl ⟨bp, op + 1, none⟩ rfl _ Tryz.underlying3 rfl (.int .i64 (pj : Int)) (fun w' h' => (hcp.out w' h').2) hS.out ?_
        simp only [Act.put, List.getElem_toArray, List.getElem_cons_succ, List.getElem_cons_zero, List.setIfInBounds_toArray, List.set_cons_zero, List.set_cons_succ]
        refine reg_move (i := 14) rfl (by kernel_rfl) (by kernel_rfl) (by kernel_rfl) (fun _ _ _ _ h => h) rfl (.pointer (some ⟨bj, oj, none⟩)) (fun wx => by unfold execOp; exact run_value_of (xj wx)) hS.out ?_
        simp only [Act.put, List.getElem_toArray, List.getElem_cons_succ, List.getElem_cons_zero, List.setIfInBounds_toArray, List.set_cons_zero, List.set_cons_succ]
        refine reg_load (i := 15) rfl (by kernel_rfl) (by kernel_rfl) (by kernel_rfl) (fun _ _ _ _ h => h) rfl 69 _ rfl bj oj rfl Y.cells _ (fun w' h' => (hev.out w' h').2) Tryz.underlying69 rfl infoE26 hS.out ?_
        simp only [Act.put, List.getElem_toArray, List.getElem_cons_succ, List.getElem_cons_zero, List.setIfInBounds_toArray, List.set_cons_zero, List.set_cons_succ]
        refine reg_two (i := 16) (j := 17) (by kernel_rfl) rfl rfl rfl rfl (wpList_alloc_big rfl 69 rfl hzv (wpList_nil ⟨bthen hS.out (boxed _ _), fun _ => ?_⟩)) (wpList_alloc_big rfl 69 rfl hzv (wpList_nil ⟨bthen hS.out (boxed _ _), fun _ => ?_⟩))
        · simp only [Act.put, List.getElem_toArray, List.getElem_cons_succ, List.getElem_cons_zero, List.setIfInBounds_toArray, List.set_cons_zero, List.set_cons_succ]
          refine reg_one (i := 17) (by kernel_rfl) rfl rfl (wpList_alloc_big rfl 69 rfl hzv (wpList_nil ⟨bthen (bthen hS.out (boxed _ _)) (boxed _ _), fun _ => ?_⟩))
          simp only [Act.put, List.getElem_toArray, List.getElem_cons_succ, List.getElem_cons_zero, List.setIfInBounds_toArray, List.set_cons_zero, List.set_cons_succ]
          obtain ⟨Y0, hY0⟩ : ∃ Y0, Y0 = (wr.drew.alloc (.cells zE.toArray 69)).alloc (.cells zE.toArray 69) := ⟨_, rfl⟩
          have t0 : Hid (Y0.heap[wr.drew.heap.size]? = some (.cells zE.toArray 69) ∧ Y0.heap[(wr.drew.alloc (.cells zE.toArray 69)).heap.size]? = some (.cells zE.toArray 69) ∧ Below wr.heap.size wr Y0 ∧ wr.drew.heap.size ≠ (wr.drew.alloc (.cells zE.toArray 69)).heap.size ∧ wr.heap.size ≤ wr.drew.heap.size ∧ wr.heap.size ≤ (wr.drew.alloc (.cells zE.toArray 69)).heap.size) := by (rw [hY0]; exact two_zs1 wr zE.toArray 69)
          rw [← hY0]
          generalize hB12 : wr.drew.heap.size = B12 at *
          generalize hB13 : (wr.drew.alloc (.cells zE.toArray 69)).heap.size = B13 at *
          clear hY0 hB12 hB13
          refine reg_one (i := 18) (by kernel_rfl) rfl rfl (wpList_store_row rfl 69 _ _ rfl B12 X.cells.toArray rfl rfl _ _ t0.out.1 (by rw [List.size_toArray]; exact infoE26) (by rw [List.size_toArray, List.size_toArray, hzl]; rfl) (ev_one X) (wpList_nil ⟨below_setRow t0.out.2.2.1 t0.out.2.2.2.2.1 _, fun _ => ?_⟩))
          simp only [Act.put, List.getElem_toArray, List.getElem_cons_succ, List.getElem_cons_zero, List.setIfInBounds_toArray, List.set_cons_zero, List.set_cons_succ]
          have t1 : Hid ((Y0.setRow B12 X.cells.toArray).heap[B12]? = some (.cells X.cells.toArray 69) ∧ (Y0.setRow B12 X.cells.toArray).heap[B13]? = some (.cells zE.toArray 69) ∧ Below wr.heap.size wr (Y0.setRow B12 X.cells.toArray)) := ⟨setRow_heap _ _ _ _ _ _ t0.out.1, (setRow_other _ _ _ _ (Ne.symm t0.out.2.2.2.1)).trans t0.out.2.1, below_setRow t0.out.2.2.1 t0.out.2.2.2.2.1 _⟩
          generalize Y0.setRow B12 X.cells.toArray = Y1 at *
          refine reg_one (i := 19) (by kernel_rfl) rfl rfl (wpList_store_row rfl 69 _ _ rfl B13 Y.cells.toArray rfl rfl _ _ t1.out.2.1 (by rw [List.size_toArray]; exact infoE26) (by rw [List.size_toArray, List.size_toArray, hzl]; rfl) (ev_one Y) (wpList_nil ⟨below_setRow t1.out.2.2 t0.out.2.2.2.2.2 _, fun _ => ?_⟩))
          simp only [Act.put, List.getElem_toArray, List.getElem_cons_succ, List.getElem_cons_zero, List.setIfInBounds_toArray, List.set_cons_zero, List.set_cons_succ]
          refine wpAnyH_done (by kernel_rfl) (NoPanic.normal ?_) _
          have t2 : Hid (Below wr.heap.size wr (Y1.setRow B13 Y.cells.toArray) ∧ (Y1.setRow B13 Y.cells.toArray).heap[B12]? = some (.cells X.cells.toArray 69) ∧ (Y1.setRow B13 Y.cells.toArray).heap[B13]? = some (.cells Y.cells.toArray 69) ∧ wr.heap.size ≤ B12 ∧ wr.heap.size ≤ B13 ∧ B12 ≠ B13) := ⟨below_setRow t1.out.2.2 t0.out.2.2.2.2.2 _, (setRow_other _ _ _ _ t0.out.2.2.2.1).trans t1.out.1, setRow_heap _ _ _ _ _ _ t1.out.2.1, t0.out.2.2.2.2.1, t0.out.2.2.2.2.2, t0.out.2.2.2.1⟩
          generalize Y1.setRow B13 Y.cells.toArray = Y2 at *
          go_wp2_with fail
          go_meet
          case rel => exact ⟨B12, B13, rfl, rfl, t2.out.1, t2.out.2.1, t2.out.2.2.1⟩
        · simp only [Act.put, List.getElem_toArray, List.getElem_cons_succ, List.getElem_cons_zero, List.setIfInBounds_toArray, List.set_cons_zero, List.set_cons_succ]
          refine reg_one (i := 16) (by kernel_rfl) rfl rfl (wpList_alloc_big rfl 69 rfl hzv (wpList_nil ⟨bthen (bthen hS.out (boxed _ _)) (boxed _ _), fun _ => ?_⟩))
          simp only [Act.put, List.getElem_toArray, List.getElem_cons_succ, List.getElem_cons_zero, List.setIfInBounds_toArray, List.set_cons_zero, List.set_cons_succ]
          obtain ⟨Y0, hY0⟩ : ∃ Y0, Y0 = (wr.drew.alloc (.cells zE.toArray 69)).alloc (.cells zE.toArray 69) := ⟨_, rfl⟩
          have t0 : Hid (Y0.heap[(wr.drew.alloc (.cells zE.toArray 69)).heap.size]? = some (.cells zE.toArray 69) ∧ Y0.heap[wr.drew.heap.size]? = some (.cells zE.toArray 69) ∧ Below wr.heap.size wr Y0 ∧ (wr.drew.alloc (.cells zE.toArray 69)).heap.size ≠ wr.drew.heap.size ∧ wr.heap.size ≤ (wr.drew.alloc (.cells zE.toArray 69)).heap.size ∧ wr.heap.size ≤ wr.drew.heap.size) := by (rw [hY0]; exact two_zs2 wr zE.toArray 69)
          rw [← hY0]
          generalize hB12 : (wr.drew.alloc (.cells zE.toArray 69)).heap.size = B12 at *
          generalize hB13 : wr.drew.heap.size = B13 at *
          clear hY0 hB12 hB13
          refine reg_one (i := 18) (by kernel_rfl) rfl rfl (wpList_store_row rfl 69 _ _ rfl B12 X.cells.toArray rfl rfl _ _ t0.out.1 (by rw [List.size_toArray]; exact infoE26) (by rw [List.size_toArray, List.size_toArray, hzl]; rfl) (ev_one X) (wpList_nil ⟨below_setRow t0.out.2.2.1 t0.out.2.2.2.2.1 _, fun _ => ?_⟩))
          simp only [Act.put, List.getElem_toArray, List.getElem_cons_succ, List.getElem_cons_zero, List.setIfInBounds_toArray, List.set_cons_zero, List.set_cons_succ]
          have t1 : Hid ((Y0.setRow B12 X.cells.toArray).heap[B12]? = some (.cells X.cells.toArray 69) ∧ (Y0.setRow B12 X.cells.toArray).heap[B13]? = some (.cells zE.toArray 69) ∧ Below wr.heap.size wr (Y0.setRow B12 X.cells.toArray)) := ⟨setRow_heap _ _ _ _ _ _ t0.out.1, (setRow_other _ _ _ _ (Ne.symm t0.out.2.2.2.1)).trans t0.out.2.1, below_setRow t0.out.2.2.1 t0.out.2.2.2.2.1 _⟩
          generalize Y0.setRow B12 X.cells.toArray = Y1 at *
          refine reg_one (i := 19) (by kernel_rfl) rfl rfl (wpList_store_row rfl 69 _ _ rfl B13 Y.cells.toArray rfl rfl _ _ t1.out.2.1 (by rw [List.size_toArray]; exact infoE26) (by rw [List.size_toArray, List.size_toArray, hzl]; rfl) (ev_one Y) (wpList_nil ⟨below_setRow t1.out.2.2 t0.out.2.2.2.2.2 _, fun _ => ?_⟩))
          simp only [Act.put, List.getElem_toArray, List.getElem_cons_succ, List.getElem_cons_zero, List.setIfInBounds_toArray, List.set_cons_zero, List.set_cons_succ]
          refine wpAnyH_done (by kernel_rfl) (NoPanic.normal ?_) _
          have t2 : Hid (Below wr.heap.size wr (Y1.setRow B13 Y.cells.toArray) ∧ (Y1.setRow B13 Y.cells.toArray).heap[B12]? = some (.cells X.cells.toArray 69) ∧ (Y1.setRow B13 Y.cells.toArray).heap[B13]? = some (.cells Y.cells.toArray 69) ∧ wr.heap.size ≤ B12 ∧ wr.heap.size ≤ B13 ∧ B12 ≠ B13) := ⟨below_setRow t1.out.2.2 t0.out.2.2.2.2.2 _, (setRow_other _ _ _ _ t0.out.2.2.2.1).trans t1.out.1, setRow_heap _ _ _ _ _ _ t1.out.2.1, t0.out.2.2.2.2.1, t0.out.2.2.2.2.2, t0.out.2.2.2.1⟩
          generalize Y1.setRow B13 Y.cells.toArray = Y2 at *
          go_wp2_with fail
          go_meet
          case rel => exact ⟨B12, B13, rfl, rfl, t2.out.1, t2.out.2.1, t2.out.2.2.1⟩
      case rest =>
        obtain ⟨A10, A11, rfl, rfl, hc0⟩ := hcut
        have st1 : Hid (RcS w wc M E ea ec o0 va vc) := st.out.later hc0.out.1
        have hc1 : Hid (wc.heap[A10]? = some (objEv X) ∧ wc.heap[A11]? = some (objEv Y)) := hc0.out.2
        clear st hc0 hS hcp hev xp xi xj i0 i1
        have hS : Hid (Below wc.heap.size wc wc.drew) := bey_drew wc
        go_upto_region 10 with fail
        go_cut [12, 13] from 24 to 94 (fun u12 u13 wx => ∃ A12 A13, u12 = .pointer (some ⟨A12, 0, none⟩) ∧ u13 = .pointer (some ⟨A13, 0, none⟩) ∧ Hid (Below wc.heap.size wc wx ∧ wx.heap[A12]? = some (obSp X.fn X.pc) ∧ wx.heap[A13]? = some (obSp Y.fn Y.pc) ∧ wc.heap.size ≤ A12 ∧ wc.heap.size ≤ A13 ∧ A12 ≠ A13))
        case first =>
          refine wp_region_noPanic ?_
          refine wp_region_held_drew (S := fun w' => Below wc.heap.size wc w') (by kernel_rfl) hS.out (fun _ => ?_)
          refine reg_move (i := 0) rfl (by kernel_rfl) (by kernel_rfl) (by kernel_rfl) (fun _ _ _ _ h => h) rfl (.pointer (some ⟨A10, 1, none⟩)) (fun _ => rfl) hS.out ?_
          simp only [Act.put, List.getElem_toArray, List.getElem_cons_succ, List.getElem_cons_zero, List.setIfInBounds_toArray, List.set_cons_zero, List.set_cons_succ]
          refine reg_load1 (i := 1) rfl (by kernel_rfl) (by kernel_rfl) (by kernel_rfl) (fun _ _ _ _ h => h) rfl 3 _ rfl ⟨A10, 1, none⟩ rfl _ Tryz.underlying3 rfl (.int .i64 X.fn) (fun w' h' => cell_of (k := 1) (blk_onR hc1.out.1 h') rfl) hS.out ?_
          simp only [Act.put, List.getElem_toArray, List.getElem_cons_succ, List.getElem_cons_zero, List.setIfInBounds_toArray, List.set_cons_zero, List.set_cons_succ]
          refine reg_move (i := 2) rfl (by kernel_rfl) (by kernel_rfl) (by kernel_rfl) (fun _ _ _ _ h => h) rfl (.pointer (some ⟨A10, 2, none⟩)) (fun _ => rfl) hS.out ?_
          simp only [Act.put, List.getElem_toArray, List.getElem_cons_succ, List.getElem_cons_zero, List.setIfInBounds_toArray, List.set_cons_zero, List.set_cons_succ]
          refine reg_load1 (i := 3) rfl (by kernel_rfl) (by kernel_rfl) (by kernel_rfl) (fun _ _ _ _ h => h) rfl 3 _ rfl ⟨A10, 2, none⟩ rfl _ Tryz.underlying3 rfl (.int .i64 X.pc) (fun w' h' => cell_of (k := 2) (blk_onR hc1.out.1 h') rfl) hS.out ?_
          simp only [Act.put, List.getElem_toArray, List.getElem_cons_succ, List.getElem_cons_zero, List.setIfInBounds_toArray, List.set_cons_zero, List.set_cons_succ]
          refine reg_move (i := 4) rfl (by kernel_rfl) (by kernel_rfl) (by kernel_rfl) (fun _ _ _ _ h => h) rfl (.agg #[.int .i64 X.fn, .int .i64 X.pc]) (fun _ => by first | rfl | kernel_rfl) hS.out ?_
          simp only [Act.put, List.getElem_toArray, List.getElem_cons_succ, List.getElem_cons_zero, List.setIfInBounds_toArray, List.set_cons_zero, List.set_cons_succ]
          refine reg_move (i := 5) rfl (by kernel_rfl) (by kernel_rfl) (by kernel_rfl) (fun _ _ _ _ h => h) rfl (.pointer (some ⟨A11, 1, none⟩)) (fun _ => rfl) hS.out ?_
          simp only [Act.put, List.getElem_toArray, List.getElem_cons_succ, List.getElem_cons_zero, List.setIfInBounds_toArray, List.set_cons_zero, List.set_cons_succ]
          refine reg_load1 (i := 6) rfl (by kernel_rfl) (by kernel_rfl) (by kernel_rfl) (fun _ _ _ _ h => h) rfl 3 _ rfl ⟨A11, 1, none⟩ rfl _ Tryz.underlying3 rfl (.int .i64 Y.fn) (fun w' h' => cell_of (k := 1) (blk_onR hc1.out.2 h') rfl) hS.out ?_
          simp only [Act.put, List.getElem_toArray, List.getElem_cons_succ, List.getElem_cons_zero, List.setIfInBounds_toArray, List.set_cons_zero, List.set_cons_succ]
          refine reg_move (i := 7) rfl (by kernel_rfl) (by kernel_rfl) (by kernel_rfl) (fun _ _ _ _ h => h) rfl (.pointer (some ⟨A11, 2, none⟩)) (fun _ => rfl) hS.out ?_
          simp only [Act.put, List.getElem_toArray, List.getElem_cons_succ, List.getElem_cons_zero, List.setIfInBounds_toArray, List.set_cons_zero, List.set_cons_succ]
          refine reg_load1 (i := 8) rfl (by kernel_rfl) (by kernel_rfl) (by kernel_rfl) (fun _ _ _ _ h => h) rfl 3 _ rfl ⟨A11, 2, none⟩ rfl _ Tryz.underlying3 rfl (.int .i64 Y.pc) (fun w' h' => cell_of (k := 2) (blk_onR hc1.out.2 h') rfl) hS.out ?_
          simp only [Act.put, List.getElem_toArray, List.getElem_cons_succ, List.getElem_cons_zero, List.setIfInBounds_toArray, List.set_cons_zero, List.set_cons_succ]
          refine reg_move (i := 9) rfl (by kernel_rfl) (by kernel_rfl) (by kernel_rfl) (fun _ _ _ _ h => h) rfl (.agg #[.int .i64 Y.fn, .int .i64 Y.pc]) (fun _ => by first | rfl | kernel_rfl) hS.out ?_
          simp only [Act.put, List.getElem_toArray, List.getElem_cons_succ, List.getElem_cons_zero, List.setIfInBounds_toArray, List.set_cons_zero, List.set_cons_succ]
          refine reg_two (i := 10) (j := 11) (by kernel_rfl) rfl rfl rfl rfl (wpList_alloc_big rfl 82 rfl zeroSpR (wpList_nil ⟨bthen hS.out (boxed _ _), fun _ => ?_⟩)) (wpList_alloc_big rfl 82 rfl zeroSpR (wpList_nil ⟨bthen hS.out (boxed _ _), fun _ => ?_⟩))
          · simp only [Act.put, List.getElem_toArray, List.getElem_cons_succ, List.getElem_cons_zero, List.setIfInBounds_toArray, List.set_cons_zero, List.set_cons_succ]
            refine reg_one (i := 11) (by kernel_rfl) rfl rfl (wpList_alloc_big rfl 82 rfl zeroSpR (wpList_nil ⟨bthen (bthen hS.out (boxed _ _)) (boxed _ _), fun _ => ?_⟩))
            simp only [Act.put, List.getElem_toArray, List.getElem_cons_succ, List.getElem_cons_zero, List.setIfInBounds_toArray, List.set_cons_zero, List.set_cons_succ]
            obtain ⟨Y0, hY0⟩ : ∃ Y0, Y0 = (wc.drew.alloc (.cells #[.int .i64 0, .int .i64 0] 82)).alloc (.cells #[.int .i64 0, .int .i64 0] 82) := ⟨_, rfl⟩
            have t0 : Hid (Y0.heap[wc.drew.heap.size]? = some (.cells #[.int .i64 0, .int .i64 0] 82) ∧ Y0.heap[(wc.drew.alloc (.cells #[.int .i64 0, .int .i64 0] 82)).heap.size]? = some (.cells #[.int .i64 0, .int .i64 0] 82) ∧ Below wc.heap.size wc Y0 ∧ wc.drew.heap.size ≠ (wc.drew.alloc (.cells #[.int .i64 0, .int .i64 0] 82)).heap.size ∧ wc.heap.size ≤ wc.drew.heap.size ∧ wc.heap.size ≤ (wc.drew.alloc (.cells #[.int .i64 0, .int .i64 0] 82)).heap.size) := by (rw [hY0]; exact two_zs1 wc #[.int .i64 0, .int .i64 0] 82)
            rw [← hY0]
            generalize hB12 : wc.drew.heap.size = B12 at *
            generalize hB13 : (wc.drew.alloc (.cells #[.int .i64 0, .int .i64 0] 82)).heap.size = B13 at *
            clear hY0 hB12 hB13
            refine reg_one (i := 12) (by kernel_rfl) rfl rfl (wpList_store_row rfl 82 _ _ rfl B12 #[.int .i64 X.fn, .int .i64 X.pc] rfl rfl _ _ t0.out.1 infoSpR rfl (by simp [Value.oneCell']) (wpList_nil ⟨below_setRow t0.out.2.2.1 t0.out.2.2.2.2.1 _, fun _ => ?_⟩))
            simp only [Act.put, List.getElem_toArray, List.getElem_cons_succ, List.getElem_cons_zero, List.setIfInBounds_toArray, List.set_cons_zero, List.set_cons_succ]
            have t1 : Hid ((Y0.setRow B12 #[.int .i64 X.fn, .int .i64 X.pc]).heap[B12]? = some (.cells #[.int .i64 X.fn, .int .i64 X.pc] 82) ∧ (Y0.setRow B12 #[.int .i64 X.fn, .int .i64 X.pc]).heap[B13]? = some (.cells #[.int .i64 0, .int .i64 0] 82) ∧ Below wc.heap.size wc (Y0.setRow B12 #[.int .i64 X.fn, .int .i64 X.pc])) := ⟨setRow_heap _ _ _ _ _ _ t0.out.1, (setRow_other _ _ _ _ (Ne.symm t0.out.2.2.2.1)).trans t0.out.2.1, below_setRow t0.out.2.2.1 t0.out.2.2.2.2.1 _⟩
            generalize Y0.setRow B12 #[.int .i64 X.fn, .int .i64 X.pc] = Y1 at *
            refine reg_one (i := 13) (by kernel_rfl) rfl rfl (wpList_store_row rfl 82 _ _ rfl B13 #[.int .i64 Y.fn, .int .i64 Y.pc] rfl rfl _ _ t1.out.2.1 infoSpR rfl (by simp [Value.oneCell']) (wpList_nil ⟨below_setRow t1.out.2.2 t0.out.2.2.2.2.2 _, fun _ => ?_⟩))
            simp only [Act.put, List.getElem_toArray, List.getElem_cons_succ, List.getElem_cons_zero, List.setIfInBounds_toArray, List.set_cons_zero, List.set_cons_succ]
            refine wpAnyH_done (by kernel_rfl) (NoPanic.normal ?_) _
            have t2 : Hid (Below wc.heap.size wc (Y1.setRow B13 #[.int .i64 Y.fn, .int .i64 Y.pc]) ∧ (Y1.setRow B13 #[.int .i64 Y.fn, .int .i64 Y.pc]).heap[B12]? = some (.cells #[.int .i64 X.fn, .int .i64 X.pc] 82) ∧ (Y1.setRow B13 #[.int .i64 Y.fn, .int .i64 Y.pc]).heap[B13]? = some (.cells #[.int .i64 Y.fn, .int .i64 Y.pc] 82) ∧ wc.heap.size ≤ B12 ∧ wc.heap.size ≤ B13 ∧ B12 ≠ B13) := ⟨below_setRow t1.out.2.2 t0.out.2.2.2.2.2 _, (setRow_other _ _ _ _ t0.out.2.2.2.1).trans t1.out.1, setRow_heap _ _ _ _ _ _ t1.out.2.1, t0.out.2.2.2.2.1, t0.out.2.2.2.2.2, t0.out.2.2.2.1⟩
            generalize Y1.setRow B13 #[.int .i64 Y.fn, .int .i64 Y.pc] = Y2 at *
            go_wp2_with fail
            go_meet
            case rel => exact ⟨B12, B13, rfl, rfl, t2⟩
          · simp only [Act.put, List.getElem_toArray, List.getElem_cons_succ, List.getElem_cons_zero, List.setIfInBounds_toArray, List.set_cons_zero, List.set_cons_succ]
            refine reg_one (i := 10) (by kernel_rfl) rfl rfl (wpList_alloc_big rfl 82 rfl zeroSpR (wpList_nil ⟨bthen (bthen hS.out (boxed _ _)) (boxed _ _), fun _ => ?_⟩))
            simp only [Act.put, List.getElem_toArray, List.getElem_cons_succ, List.getElem_cons_zero, List.setIfInBounds_toArray, List.set_cons_zero, List.set_cons_succ]
            obtain ⟨Y0, hY0⟩ : ∃ Y0, Y0 = (wc.drew.alloc (.cells #[.int .i64 0, .int .i64 0] 82)).alloc (.cells #[.int .i64 0, .int .i64 0] 82) := ⟨_, rfl⟩
            have t0 : Hid (Y0.heap[(wc.drew.alloc (.cells #[.int .i64 0, .int .i64 0] 82)).heap.size]? = some (.cells #[.int .i64 0, .int .i64 0] 82) ∧ Y0.heap[wc.drew.heap.size]? = some (.cells #[.int .i64 0, .int .i64 0] 82) ∧ Below wc.heap.size wc Y0 ∧ (wc.drew.alloc (.cells #[.int .i64 0, .int .i64 0] 82)).heap.size ≠ wc.drew.heap.size ∧ wc.heap.size ≤ (wc.drew.alloc (.cells #[.int .i64 0, .int .i64 0] 82)).heap.size ∧ wc.heap.size ≤ wc.drew.heap.size) := by (rw [hY0]; exact two_zs2 wc #[.int .i64 0, .int .i64 0] 82)
            rw [← hY0]
            generalize hB12 : (wc.drew.alloc (.cells #[.int .i64 0, .int .i64 0] 82)).heap.size = B12 at *
            generalize hB13 : wc.drew.heap.size = B13 at *
            clear hY0 hB12 hB13
            refine reg_one (i := 12) (by kernel_rfl) rfl rfl (wpList_store_row rfl 82 _ _ rfl B12 #[.int .i64 X.fn, .int .i64 X.pc] rfl rfl _ _ t0.out.1 infoSpR rfl (by simp [Value.oneCell']) (wpList_nil ⟨below_setRow t0.out.2.2.1 t0.out.2.2.2.2.1 _, fun _ => ?_⟩))
            simp only [Act.put, List.getElem_toArray, List.getElem_cons_succ, List.getElem_cons_zero, List.setIfInBounds_toArray, List.set_cons_zero, List.set_cons_succ]
            have t1 : Hid ((Y0.setRow B12 #[.int .i64 X.fn, .int .i64 X.pc]).heap[B12]? = some (.cells #[.int .i64 X.fn, .int .i64 X.pc] 82) ∧ (Y0.setRow B12 #[.int .i64 X.fn, .int .i64 X.pc]).heap[B13]? = some (.cells #[.int .i64 0, .int .i64 0] 82) ∧ Below wc.heap.size wc (Y0.setRow B12 #[.int .i64 X.fn, .int .i64 X.pc])) := ⟨setRow_heap _ _ _ _ _ _ t0.out.1, (setRow_other _ _ _ _ (Ne.symm t0.out.2.2.2.1)).trans t0.out.2.1, below_setRow t0.out.2.2.1 t0.out.2.2.2.2.1 _⟩
            generalize Y0.setRow B12 #[.int .i64 X.fn, .int .i64 X.pc] = Y1 at *
            refine reg_one (i := 13) (by kernel_rfl) rfl rfl (wpList_store_row rfl 82 _ _ rfl B13 #[.int .i64 Y.fn, .int .i64 Y.pc] rfl rfl _ _ t1.out.2.1 infoSpR rfl (by simp [Value.oneCell']) (wpList_nil ⟨below_setRow t1.out.2.2 t0.out.2.2.2.2.2 _, fun _ => ?_⟩))
            simp only [Act.put, List.getElem_toArray, List.getElem_cons_succ, List.getElem_cons_zero, List.setIfInBounds_toArray, List.set_cons_zero, List.set_cons_succ]
            refine wpAnyH_done (by kernel_rfl) (NoPanic.normal ?_) _
            have t2 : Hid (Below wc.heap.size wc (Y1.setRow B13 #[.int .i64 Y.fn, .int .i64 Y.pc]) ∧ (Y1.setRow B13 #[.int .i64 Y.fn, .int .i64 Y.pc]).heap[B12]? = some (.cells #[.int .i64 X.fn, .int .i64 X.pc] 82) ∧ (Y1.setRow B13 #[.int .i64 Y.fn, .int .i64 Y.pc]).heap[B13]? = some (.cells #[.int .i64 Y.fn, .int .i64 Y.pc] 82) ∧ wc.heap.size ≤ B12 ∧ wc.heap.size ≤ B13 ∧ B12 ≠ B13) := ⟨below_setRow t1.out.2.2 t0.out.2.2.2.2.2 _, (setRow_other _ _ _ _ t0.out.2.2.2.1).trans t1.out.1, setRow_heap _ _ _ _ _ _ t1.out.2.1, t0.out.2.2.2.2.1, t0.out.2.2.2.2.2, t0.out.2.2.2.1⟩
            generalize Y1.setRow B13 #[.int .i64 Y.fn, .int .i64 Y.pc] = Y2 at *
            go_wp2_with fail
            go_meet
            case rel => exact ⟨B12, B13, rfl, rfl, t2⟩
        case rest =>
          rename World => wd
          obtain ⟨A12, A13, rfl, rfl, hd0⟩ := hcut
          have st2 : Hid (RcS w wd M E ea ec o0 va vc) := st1.out.later hd0.out.1
          have hc2 : Hid (wd.heap[A10]? = some (objEv X) ∧ wd.heap[A11]? = some (objEv Y) ∧ A10 < wc.heap.size ∧ A11 < wc.heap.size) := ⟨blk_onR hc1.out.1 hd0.out.1, blk_onR hc1.out.2 hd0.out.1, (Array.getElem?_eq_some_iff.mp hc1.out.1).1, (Array.getElem?_eq_some_iff.mp hc1.out.2).1⟩
          have hd1 : Hid (wd.heap[A12]? = some (obSp X.fn X.pc) ∧ wd.heap[A13]? = some (obSp Y.fn Y.pc) ∧ wc.heap.size ≤ A12 ∧ wc.heap.size ≤ A13 ∧ A12 ≠ A13 ∧ Below wc.heap.size wc wd) := ⟨hd0.out.2.1, hd0.out.2.2.1, hd0.out.2.2.2.1, hd0.out.2.2.2.2.1, hd0.out.2.2.2.2.2, hd0.out.1⟩
          clear hd0 hS
          have m0 : wd.cell? ⟨A12, 0, none⟩ = some (.int .i64 X.fn) := cell_of (k := 0) hd1.out.1 rfl
          have m1 : wd.cell? ⟨A12, 1, none⟩ = some (.int .i64 X.pc) := cell_of (k := 1) hd1.out.1 rfl
          have m2 : wd.cell? ⟨A13, 0, none⟩ = some (.int .i64 Y.fn) := cell_of (k := 0) hd1.out.2.1 rfl
          have m3 : wd.cell? ⟨A13, 1, none⟩ = some (.int .i64 Y.pc) := cell_of (k := 1) hd1.out.2.1 rfl
          obtain ⟨b1, h1⟩ : ∃ b, decide (Y.fn < X.fn) = b := ⟨_, rfl⟩
          obtain ⟨b2, h2⟩ : ∃ b, (Y.fn == X.fn) = b := ⟨_, rfl⟩
          obtain ⟨b3, h3⟩ : ∃ b, decide (Y.pc < X.pc) = b := ⟨_, rfl⟩
          have hsw : Hid (b1 = true ∨ b2 = true ∧ b3 = true → ∀ n, fdR X.fn X.pc Y.fn Y.pc n = ⟨5, Y.fn, Y.pc, X.fn, X.pc, n, 0⟩) := fun q => fdR_is _ _ _ _ (by rw [h1, h2, h3]; exact q)
          have hns : Hid (b1 = false → (b2 = false ∨ b3 = false) → ∀ n, fdR X.fn X.pc Y.fn Y.pc n = ⟨5, X.fn, X.pc, Y.fn, Y.pc, n, 0⟩) := fun q1 q2 => fdR_no _ _ _ _ (by rw [h1]; exact q1) (by rw [h2, h3]; exact q2)
          have hdd : Hid ((b1 || (b2 && b3)) = true → ∀ n, fdR X.fn X.pc Y.fn Y.pc n = ⟨5, Y.fn, Y.pc, X.fn, X.pc, n, 0⟩) := fun q => hsw.out (by cases b1 <;> cases b2 <;> cases b3 <;> simp at q ⊢)
          have hde : Hid ((b1 || (b2 && b3)) = false → ∀ n, fdR X.fn X.pc Y.fn Y.pc n = ⟨5, X.fn, X.pc, Y.fn, Y.pc, n, 0⟩) := fun q => hns.out (by cases b1 <;> simp at q ⊢) (by cases b1 <;> cases b2 <;> cases b3 <;> simp at q ⊢)
          clear hsw hns
          go_upto_region 11 with fail
          go_cut [74] from 24 to 94 (fun u74 wx => u74 = .bool (b1 || (b2 && b3)) ∧ wx = wd)
          case first =>
            cases b1 with
            | true =>
              clear h2 h3
              go_wp2_with fail
              go_meet
              case rel => exact ⟨rfl, rfl⟩
            | false =>
              cases b2 with
              | false =>
                clear h3
                go_wp2_with fail
                go_meet
                case rel => exact ⟨rfl, rfl⟩
              | true =>
                cases b3 with
                | true =>
                  go_wp2_with fail
                  go_meet
                  case rel => exact ⟨rfl, rfl⟩
                | false =>
                  go_wp2_with fail
                  go_meet
                  case rel => exact ⟨rfl, rfl⟩
          case rest =>
            rename World => wz
            obtain ⟨rfl, hwz⟩ := hcut
            replace hwz := hwz.symm
            subst hwz
            clear h1 h2 h3
            generalize (b1 || (b2 && b3)) = sw at *
            cases sw with
            | true =>
              go_upto_region 13 with (first
                | ((with_reducible refine at_storeR 82 (.tmp 12) _ rfl ?_); refine stopR_out ?_; refine wpList_store_row rfl 82 _ _ rfl A12 #[.int .i64 Y.fn, .int .i64 Y.pc] rfl rfl _ _ hd1.out.1 infoSpR rfl (by simp [Value.oneCell']) ?_; (obtain ⟨V1, hV1⟩ : ∃ V1, V1 = wd.setRow A12 #[.int .i64 Y.fn, .int .i64 Y.pc] := ⟨_, rfl⟩); rw [← hV1]; (have e1 : Hid (V1.heap[A13]? = some (obSp Y.fn Y.pc)) := by (rw [hV1]; exact (setRow_other _ _ _ _ (Ne.symm hd1.out.2.2.2.2.1)).trans hd1.out.2.1)))
                | ((with_reducible refine at_storeR 82 (.tmp 13) _ rfl ?_); refine stopR_out ?_; refine wpList_store_row rfl 82 _ _ rfl A13 #[.int .i64 X.fn, .int .i64 X.pc] rfl rfl _ _ e1.out infoSpR rfl (by simp [Value.oneCell']) ?_; (obtain ⟨V2, hV2⟩ : ∃ V2, V2 = V1.setRow A13 #[.int .i64 X.fn, .int .i64 X.pc] := ⟨_, rfl⟩); rw [← hV2]; (have zz := rc_swap st1.out st2.out hc2.out hd1.out hV1 hV2); clear hV1 hV2))
              obtain ⟨fa, pa, fb, pb, hfd, v0⟩ : ∃ fa pa fb pb : Int, Hid (∀ n, fdR X.fn X.pc Y.fn Y.pc n = ⟨5, fa, pa, fb, pb, n, 0⟩) ∧ Hid (RcS w V2 M E ea ec (inF M.vars X Y o0 0) va vc ∧ V2.heap[A10]? = some (objEv X) ∧ V2.heap[A11]? = some (objEv Y) ∧ V2.heap[A12]? = some (obSp fa pa) ∧ V2.heap[A13]? = some (obSp fb pb)) := ⟨Y.fn, Y.pc, X.fn, X.pc, hdd.out rfl, zz⟩
              clear m0 m1 m2 m3 zz
              go_wp2_with fail
              go_loopw [7, 14] (fun u7 u14 wq => ∃ (k : Nat) (va' : Option Addr) (vc' : Nat), k ≤ M.vars.length ∧ u14 = .int .i64 (k : Int) ∧ u7 = .slice va' (inF M.vars X Y o0 k).length vc' ∧ Hid (RcS w wq M E ea ec (inF M.vars X Y o0 k) va' vc' ∧ wq.heap[A10]? = some (objEv X) ∧ wq.heap[A11]? = some (objEv Y) ∧ wq.heap[A12]? = some (obSp fa pa) ∧ wq.heap[A13]? = some (obSp fb pb))) (fun _ u14 _ => M.vars.length - (intOf u14).toNat)
              case atStart => exact ⟨0, va, vc, Nat.zero_le _, rfl, rfl, v0⟩
              case round =>
                obtain ⟨k, va', vc', hk, rfl, rfl, v1⟩ := hrel
                rename World => wq
                clear v0
                obtain ⟨k0, k1, k2, k3⟩ := p4 v1.out.1.p
                by_cases hkl : k < M.vars.length
                · have hkI : (k : Int) < M.vars.length := by omega
                  have hIl : Hid ((inF M.vars X Y o0 k).length ≤ 600000) := by (have h1 := inF_len M.vars X Y o0 k; have h2 := hOl.out; have h3 := hi6.out; have h4 := h8H.out; show _ ≤ _; omega)
                  have hIw : Hid (∀ z ∈ inF M.vars X Y o0 k, z.wf) := inF_wf h8H.out hX.out.1 hX.out.2 hOw.out k hk
                  have hfw : Hid ((⟨5, fa, pa, fb, pb, (k : Int), 0⟩ : Fd).wf) := by (show Fd.wf _; rw [← hfd.out]; exact fdR_wf hX.out.1.1.2.1 hX.out.1.1.2.2.1 hX.out.2.1.2.1 hX.out.2.1.2.2.1 ⟨by omega, by omega⟩)
                  have hnk : Hid (inF M.vars X Y o0 (k + 1) = if shP M.vars X Y (k : Int) then putF (fdR X.fn X.pc Y.fn Y.pc (k : Int)) (inF M.vars X Y o0 k) else inF M.vars X Y o0 k) := rfl
                  have cS : ∀ (R : Bool), Hid (R = shP M.vars X Y (k : Int)) → Calls Tryz.prog 55 #[M.val, .agg X.cells.toArray, .agg Y.cells.toArray, .int .i64 (k : Int)] wq fun e w' => e = .returned (.bool R) ∧ Below wq.heap.size wq w' := fun R hR => shared_any M X Y (k : Int) wq (hMH.out.later v1.out.1.b) R hR
                  obtain ⟨R, hR⟩ : ∃ R, shP M.vars X Y (k : Int) = R := ⟨_, rfl⟩
                  rw [hR] at hnk
                  have cS2 := cS R hR.symm
                  clear cS hR
                  cases R with
                  | false =>
                    have hN : Hid (inF M.vars X Y o0 (k + 1) = inF M.vars X Y o0 k) := by (show _ = _; rw [hnk.out]; rfl)
                    go_wp2_with (first
                      | (refine wpList_load_row rfl 69 _ rfl A10 rfl _ _ _ _ v1.out.2.1 huE.out rfl (infoEvR X) ?_)
                      | (refine wpList_load_row rfl 69 _ rfl A11 rfl _ _ _ _ v1.out.2.2.1 huE.out rfl (infoEvR Y) ?_)
                      | (go_at_call 55; (with_reducible refine cS2.mono ?_); rintro e w6 ⟨rfl, hb6⟩; (have v2 : Hid (RcS w w6 M E ea ec (inF M.vars X Y o0 k) va' vc' ∧ w6.heap[A10]? = some (objEv X) ∧ w6.heap[A11]? = some (objEv Y) ∧ w6.heap[A12]? = some (obSp fa pa) ∧ w6.heap[A13]? = some (obSp fb pb)) := ⟨v1.out.1.later hb6, blk_onR v1.out.2.1 hb6, blk_onR v1.out.2.2.1 hb6, blk_onR v1.out.2.2.2.1 hb6, blk_onR v1.out.2.2.2.2 hb6⟩); clear hb6))
                    go_roundw
                    case rel => exact ⟨k + 1, va', vc', by omega, by go_num, by rw [hN.out], by rw [hN.out]; exact v2⟩
                    case measure => simp [intOf]; omega
                  | true =>
                    have hN : Hid (inF M.vars X Y o0 (k + 1) = putF ⟨5, fa, pa, fb, pb, (k : Int), 0⟩ (inF M.vars X Y o0 k)) := by (show _ = _; rw [hnk.out, hfd.out]; rfl)
                    go_wp2_with (first
                      | (refine wpList_load_row rfl 69 _ rfl A10 rfl _ _ _ _ v1.out.2.1 huE.out rfl (infoEvR X) ?_)
                      | (refine wpList_load_row rfl 69 _ rfl A11 rfl _ _ _ _ v1.out.2.2.1 huE.out rfl (infoEvR Y) ?_)
                      | (go_at_call 55; (with_reducible refine cS2.mono ?_); rintro e w6 ⟨rfl, hb6⟩; (have v2 : Hid (RcS w w6 M E ea ec (inF M.vars X Y o0 k) va' vc' ∧ w6.heap[A10]? = some (objEv X) ∧ w6.heap[A11]? = some (objEv Y) ∧ w6.heap[A12]? = some (obSp fa pa) ∧ w6.heap[A13]? = some (obSp fb pb)) := ⟨v1.out.1.later hb6, blk_onR v1.out.2.1 hb6, blk_onR v1.out.2.2.1 hb6, blk_onR v1.out.2.2.2.1 hb6, blk_onR v1.out.2.2.2.2 hb6⟩); (have f0 := cell_of (k := 0) v2.out.2.2.2.1 rfl); (have f1 := cell_of (k := 1) v2.out.2.2.2.1 rfl); (have g0 := cell_of (k := 0) v2.out.2.2.2.2 rfl); (have g1 := cell_of (k := 1) v2.out.2.2.2.2 rfl); clear hb6)
                      | (go_at_call 56; (refine (putR_any _ va' vc' ⟨5, fa, pa, fb, pb, (k : Int), 0⟩ w6 v2.out.1.o hIw.out hfw.out hIl.out).mono ?_); rintro e w7 ⟨va2, vc2, rfl, ho7, hb7⟩; (have v3 : Hid (RcS w w7 M E ea ec (putF ⟨5, fa, pa, fb, pb, (k : Int), 0⟩ (inF M.vars X Y o0 k)) va2 vc2 ∧ w7.heap[A10]? = some (objEv X) ∧ w7.heap[A11]? = some (objEv Y) ∧ w7.heap[A12]? = some (obSp fa pa) ∧ w7.heap[A13]? = some (obSp fb pb)) := ⟨⟨blk_onR v2.out.1.p hb7, v2.out.1.e.later hb7, own_rows ho7 (lenFd _), bthen v2.out.1.b hb7⟩, blk_onR v2.out.2.1 hb7, blk_onR v2.out.2.2.1 hb7, blk_onR v2.out.2.2.2.1 hb7, blk_onR v2.out.2.2.2.2 hb7⟩); clear hb7 ho7))
                    go_roundw
                    case rel => exact ⟨k + 1, va2, vc2, by omega, by go_num, by rw [hN.out], by rw [hN.out]; exact v3⟩
                    case measure => simp [intOf]; omega
                · have hke : k = M.vars.length := by omega
                  have hkI : ¬ (k : Int) < M.vars.length := by omega
                  have v2 : Hid (RcS w wq M E ea ec (ouF M.vars l E (i + 1)) va' vc') := by (rw [hnx.out, ← hke]; exact v1.out.1)
                  have hle : Hid ((inF M.vars X Y o0 k).length = (ouF M.vars l E (i + 1)).length) := by (show _ = _; rw [hnx.out, ← hke])
                  rw [hle.out]
                  clear v1 hle
                  go_wp2
                  go_roundw
                  case rel => exact ⟨i + 1, va', vc', by omega, by go_num, rfl, v2⟩
                  case measure => simp [intOf]; omega
            | false =>
              go_upto_region 13 with fail
              have zz : RcS w wd M E ea ec (inF M.vars X Y o0 0) va vc ∧ wd.heap[A10]? = some (objEv X) ∧ wd.heap[A11]? = some (objEv Y) ∧ wd.heap[A12]? = some (obSp X.fn X.pc) ∧ wd.heap[A13]? = some (obSp Y.fn Y.pc) := ⟨st2.out, hc2.out.1, hc2.out.2.1, hd1.out.1, hd1.out.2.1⟩
              obtain ⟨fa, pa, fb, pb, hfd, v0⟩ : ∃ fa pa fb pb : Int, Hid (∀ n, fdR X.fn X.pc Y.fn Y.pc n = ⟨5, fa, pa, fb, pb, n, 0⟩) ∧ Hid (RcS w wd M E ea ec (inF M.vars X Y o0 0) va vc ∧ wd.heap[A10]? = some (objEv X) ∧ wd.heap[A11]? = some (objEv Y) ∧ wd.heap[A12]? = some (obSp fa pa) ∧ wd.heap[A13]? = some (obSp fb pb)) := ⟨X.fn, X.pc, Y.fn, Y.pc, hde.out rfl, zz⟩
              clear m0 m1 m2 m3 zz
              go_wp2_with fail
              go_loopw [7, 14] (fun u7 u14 wq => ∃ (k : Nat) (va' : Option Addr) (vc' : Nat), k ≤ M.vars.length ∧ u14 = .int .i64 (k : Int) ∧ u7 = .slice va' (inF M.vars X Y o0 k).length vc' ∧ Hid (RcS w wq M E ea ec (inF M.vars X Y o0 k) va' vc' ∧ wq.heap[A10]? = some (objEv X) ∧ wq.heap[A11]? = some (objEv Y) ∧ wq.heap[A12]? = some (obSp fa pa) ∧ wq.heap[A13]? = some (obSp fb pb))) (fun _ u14 _ => M.vars.length - (intOf u14).toNat)
              case atStart => exact ⟨0, va, vc, Nat.zero_le _, rfl, rfl, v0⟩
              case round =>
                obtain ⟨k, va', vc', hk, rfl, rfl, v1⟩ := hrel
                rename World => wq
                clear v0
                obtain ⟨k0, k1, k2, k3⟩ := p4 v1.out.1.p
                by_cases hkl : k < M.vars.length
                · have hkI : (k : Int) < M.vars.length := by omega
                  have hIl : Hid ((inF M.vars X Y o0 k).length ≤ 600000) := by (have h1 := inF_len M.vars X Y o0 k; have h2 := hOl.out; have h3 := hi6.out; have h4 := h8H.out; show _ ≤ _; omega)
                  have hIw : Hid (∀ z ∈ inF M.vars X Y o0 k, z.wf) := inF_wf h8H.out hX.out.1 hX.out.2 hOw.out k hk
                  have hfw : Hid ((⟨5, fa, pa, fb, pb, (k : Int), 0⟩ : Fd).wf) := by (show Fd.wf _; rw [← hfd.out]; exact fdR_wf hX.out.1.1.2.1 hX.out.1.1.2.2.1 hX.out.2.1.2.1 hX.out.2.1.2.2.1 ⟨by omega, by omega⟩)
                  have hnk : Hid (inF M.vars X Y o0 (k + 1) = if shP M.vars X Y (k : Int) then putF (fdR X.fn X.pc Y.fn Y.pc (k : Int)) (inF M.vars X Y o0 k) else inF M.vars X Y o0 k) := rfl
                  have cS : ∀ (R : Bool), Hid (R = shP M.vars X Y (k : Int)) → Calls Tryz.prog 55 #[M.val, .agg X.cells.toArray, .agg Y.cells.toArray, .int .i64 (k : Int)] wq fun e w' => e = .returned (.bool R) ∧ Below wq.heap.size wq w' := fun R hR => shared_any M X Y (k : Int) wq (hMH.out.later v1.out.1.b) R hR
                  obtain ⟨R, hR⟩ : ∃ R, shP M.vars X Y (k : Int) = R := ⟨_, rfl⟩
                  rw [hR] at hnk
                  have cS2 := cS R hR.symm
                  clear cS hR
                  cases R with
                  | false =>
                    have hN : Hid (inF M.vars X Y o0 (k + 1) = inF M.vars X Y o0 k) := by (show _ = _; rw [hnk.out]; rfl)
                    go_wp2_with (first
                      | (refine wpList_load_row rfl 69 _ rfl A10 rfl _ _ _ _ v1.out.2.1 huE.out rfl (infoEvR X) ?_)
                      | (refine wpList_load_row rfl 69 _ rfl A11 rfl _ _ _ _ v1.out.2.2.1 huE.out rfl (infoEvR Y) ?_)
                      | (go_at_call 55; (with_reducible refine cS2.mono ?_); rintro e w6 ⟨rfl, hb6⟩; (have v2 : Hid (RcS w w6 M E ea ec (inF M.vars X Y o0 k) va' vc' ∧ w6.heap[A10]? = some (objEv X) ∧ w6.heap[A11]? = some (objEv Y) ∧ w6.heap[A12]? = some (obSp fa pa) ∧ w6.heap[A13]? = some (obSp fb pb)) := ⟨v1.out.1.later hb6, blk_onR v1.out.2.1 hb6, blk_onR v1.out.2.2.1 hb6, blk_onR v1.out.2.2.2.1 hb6, blk_onR v1.out.2.2.2.2 hb6⟩); clear hb6))
                    go_roundw
                    case rel => exact ⟨k + 1, va', vc', by omega, by go_num, by rw [hN.out], by rw [hN.out]; exact v2⟩
                    case measure => simp [intOf]; omega
                  | true =>
                    have hN : Hid (inF M.vars X Y o0 (k + 1) = putF ⟨5, fa, pa, fb, pb, (k : Int), 0⟩ (inF M.vars X Y o0 k)) := by (show _ = _; rw [hnk.out, hfd.out]; rfl)
                    go_wp2_with (first
                      | (refine wpList_load_row rfl 69 _ rfl A10 rfl _ _ _ _ v1.out.2.1 huE.out rfl (infoEvR X) ?_)
                      | (refine wpList_load_row rfl 69 _ rfl A11 rfl _ _ _ _ v1.out.2.2.1 huE.out rfl (infoEvR Y) ?_)
                      | (go_at_call 55; (with_reducible refine cS2.mono ?_); rintro e w6 ⟨rfl, hb6⟩; (have v2 : Hid (RcS w w6 M E ea ec (inF M.vars X Y o0 k) va' vc' ∧ w6.heap[A10]? = some (objEv X) ∧ w6.heap[A11]? = some (objEv Y) ∧ w6.heap[A12]? = some (obSp fa pa) ∧ w6.heap[A13]? = some (obSp fb pb)) := ⟨v1.out.1.later hb6, blk_onR v1.out.2.1 hb6, blk_onR v1.out.2.2.1 hb6, blk_onR v1.out.2.2.2.1 hb6, blk_onR v1.out.2.2.2.2 hb6⟩); (have f0 := cell_of (k := 0) v2.out.2.2.2.1 rfl); (have f1 := cell_of (k := 1) v2.out.2.2.2.1 rfl); (have g0 := cell_of (k := 0) v2.out.2.2.2.2 rfl); (have g1 := cell_of (k := 1) v2.out.2.2.2.2 rfl); clear hb6)
                      | (go_at_call 56; (refine (putR_any _ va' vc' ⟨5, fa, pa, fb, pb, (k : Int), 0⟩ w6 v2.out.1.o hIw.out hfw.out hIl.out).mono ?_); rintro e w7 ⟨va2, vc2, rfl, ho7, hb7⟩; (have v3 : Hid (RcS w w7 M E ea ec (putF ⟨5, fa, pa, fb, pb, (k : Int), 0⟩ (inF M.vars X Y o0 k)) va2 vc2 ∧ w7.heap[A10]? = some (objEv X) ∧ w7.heap[A11]? = some (objEv Y) ∧ w7.heap[A12]? = some (obSp fa pa) ∧ w7.heap[A13]? = some (obSp fb pb)) := ⟨⟨blk_onR v2.out.1.p hb7, v2.out.1.e.later hb7, own_rows ho7 (lenFd _), bthen v2.out.1.b hb7⟩, blk_onR v2.out.2.1 hb7, blk_onR v2.out.2.2.1 hb7, blk_onR v2.out.2.2.2.1 hb7, blk_onR v2.out.2.2.2.2 hb7⟩); clear hb7 ho7))
                    go_roundw
                    case rel => exact ⟨k + 1, va2, vc2, by omega, by go_num, by rw [hN.out], by rw [hN.out]; exact v3⟩
                    case measure => simp [intOf]; omega
                · have hke : k = M.vars.length := by omega
                  have hkI : ¬ (k : Int) < M.vars.length := by omega
                  have v2 : Hid (RcS w wq M E ea ec (ouF M.vars l E (i + 1)) va' vc') := by (rw [hnx.out, ← hke]; exact v1.out.1)
                  have hle : Hid ((inF M.vars X Y o0 k).length = (ouF M.vars l E (i + 1)).length) := by (show _ = _; rw [hnx.out, ← hke])
                  rw [hle.out]
                  clear v1 hle
                  go_wp2
                  go_roundw
                  case rel => exact ⟨i + 1, va', vc', by omega, by go_num, rfl, v2⟩
                  case measure => simp [intOf]; omega
    · have hie : i = E.length := by omega
      subst hie
      have hiI : ¬ (E.length : Int) < E.length := by omega
      go_wp2
      go_ret2
      exact ⟨va, vc, rfl, st.out.o, st.out.b⟩
end Go.Proofs.YtafefnkgdnmjbaaGreatDoor.pg
