/- Can a goroutine be so where it stands: package state's stands. -/
import Derived.Test.YtjcmhaaohdmjpaaDoorM10
import Derived.Test.YtjcmhaaohdmjpaaDoorM19
namespace Go.Proofs.YtjcmhaaohdmjpaaDoor.pg
open Go.ChangeShapes Go.WideShapes Go.ChangeAt Go.RowKit
set_option linter.unusedVariables false
set_option linter.unusedSimpArgs false
set_option maxRecDepth 100000
theorem InG.regs {w : World} {B : Nat} {g : Gr} (h : InG w B g) (hl : g.rg.length = 8) : Rows w 1 (some ⟨B, 4, none⟩) 8 (g.rg.map chCells) :=
  rows_of h _ (fun r hr => by obtain ⟨x, _, rfl⟩ := List.mem_map.mp hr; rfl) (by rw [List.length_map, hl]; omega) (by omega) [.int .i64 g.st, .int .i64 g.fn, .int .i64 g.pc, .int .i64 g.why] [] (by rw [← ints_flat, List.append_nil]; rfl) rfl
theorem tz_drop (l : List Int) (k : Nat) : (∀ x ∈ l.drop k, x = 0) ↔ tz l k := by
  constructor
  · intro h i hi
    rw [List.getD_eq_getElem?_getD]
    by_cases c : i < l.length
    · rw [List.getElem?_eq_getElem c]
      refine h _ ?_
      rw [List.mem_drop_iff_getElem]
      exact ⟨i - k, by omega, by congr 1; omega⟩
    · rw [List.getElem?_eq_none (by omega)]; rfl
  · intro h x hx
    rw [List.mem_drop_iff_getElem] at hx
    obtain ⟨i, hi, rfl⟩ := hx
    have := h (k + i) (by omega)
    rw [List.getD_eq_getElem?_getD, List.getElem?_eq_getElem (by omega)] at this
    simpa [Nat.add_comm] using this
theorem tz_all (l : List Int) : (∀ x ∈ l, x = 0) ↔ tz l 0 := by have := tz_drop l 0; rwa [List.drop_zero] at this
theorem fnAt_M {M : MPr} {n : Int} {F : MFn} (h : M.fns[n.toNat]? = some F) : fnAt M.pr n = F.fn := by
  unfold fnAt
  rw [List.getD_eq_getElem?_getD]
  show ((M.fns.map MFn.fn)[n.toNat]?).getD _ = _
  rw [List.getElem?_map, h]
  rfl
/-- Two boxes: a program, and a goroutine. -/
structure PG (w W : World) (M : MPr) (g : Gr) : Prop where
  b : Below w.heap.size w W
  p : BoxP W w.heap.size M
  gb : InG W (w.heap.size + 1) g
theorem pg_new (w : World) (M : MPr) (g : Gr) : PG w ((w.alloc (objP M)).alloc (objG g)) M g := by
  obtain ⟨h1, h2⟩ := two_boxes w (objP M) (objG g)
  exact ⟨boxed2 _ _ _, ⟨cell_ofG h1 rfl, cell_ofG h1 rfl, cell_ofG h1 rfl, cell_ofG h1 rfl⟩, h2⟩
theorem PG.later {w W W' : World} {M : MPr} {g : Gr} (h : PG w W M g) (hb : Below W.heap.size W W') : PG w W' M g := ⟨bthen h.b hb, h.p.later hb, h.gb.later hb⟩
theorem Rfalse {R : Bool} {p : Prop} (hR : Hid (R = true ↔ p)) (h : ¬ p) : R = false := by rw [Bool.eq_false_iff]; exact fun q => h (hR.out.mp q)
theorem Rtrue {R : Bool} {p : Prop} (hR : Hid (R = true ↔ p)) (h : p) : R = true := hR.out.mpr h
set_option maxHeartbeats 2000000 in
theorem stands_any (M : MPr) (g : Gr) (hok : (chk insP M.pr).1 = 0) (hg : g.wf) (w : World) (hM : M.lies w) (hF : prog.Forms w) (R : Bool) (hR : Hid (R = true ↔ stands M.pr g)) :
    Calls Tryd.prog 26 #[M.val, g.val] w fun e w' => e = .returned (.bool R) ∧ Below w.heap.size w w' := by
  have hlen := rows_len hM.2.2.1
  by_cases c0 : g.fn < 0
  · have e := Rfalse hR fun q => by have := q.1; omega
    subst e
    clear hR hM hF hok hg
    have hE := pg_new w M g
    go_enter Tryd.func26, Tryd.ntmps26
    go_upto_region 1 with fail
    generalize (w.alloc (objP M)).alloc (objG g) = W at *
    have hEH : Hid (PG w W M g) := hE
    obtain ⟨p0, p1, p2, p3⟩ := hE.p
    have z0 := hE.gb.c0
    have z1 := hE.gb.c1
    have z2 := hE.gb.c2
    have z3 := hE.gb.c3
    clear hE
    go_wp2
    go_ret
    exact ⟨rfl, hEH.out.b⟩
  by_cases c1 : g.fn < M.fns.length
  · obtain ⟨F, hFi, hFm⟩ : ∃ F, M.fns[g.fn.toNat]? = some F ∧ F ∈ M.fns := get_lt _ _ (by omega)
    have eF := fnAt_M hFi
    have hc : GoodC F.regs F.code := good_of hok F.fn (List.mem_map.mpr ⟨F, hFm, rfl⟩)
    have hR2 : Hid (R = true ↔ standF F.fn g) := by
      show _ ↔ _
      rw [hR.out]
      unfold stands
      rw [eF]
      exact ⟨fun q => q.2.2, fun q => ⟨by omega, by show g.fn < ((M.fns.map MFn.fn).length : Int); rw [List.length_map]; exact c1, q⟩⟩
    have hlF := hM.2.2.2.2.2.2 F hFm
    have hclen := rows_len hlF.1
    obtain ⟨fb, fo, hfix, hfb, fc0, fc1, fc2, fc3⟩ := fn_ix hM.2.2.1 g.fn.toNat F hFi
    rw [show ((g.fn.toNat : Nat) : Int) = g.fn by omega] at hfix
    have d0 : ¬ g.fn < 0 := c0
    have latH : Hid (∀ {b q : Nat} {v : Value}, b < w.heap.size → w.cell? ⟨b, q, none⟩ = some v → ∀ w', Below w.heap.size w w' → w'.cell? ⟨b, q, none⟩ = some v) := fun {b q v} hb hv w' hw' => (hw'.cell (p := ⟨b, q, none⟩) hb).trans hv
    have hl := hg.2.2.2.2.1
    have r0 := hc.r0
    have r8 := hc.r8
    have hFH : Hid (prog.Forms w) := hF
    clear hR hF hok eF hFm hFi
    have hE := pg_new w M g
    go_enter Tryd.func26, Tryd.ntmps26
    go_upto_region 1 with fail
    generalize (w.alloc (objP M)).alloc (objG g) = W at *
    have hEH : Hid (PG w W M g) := hE
    obtain ⟨p0, p1, p2, p3⟩ := hE.p
    have z0 := hE.gb.c0
    have z1 := hE.gb.c1
    have z2 := hE.gb.c2
    have z3 := hE.gb.c3
    have f0 := latH.out hfb fc0 W hE.b
    have f1 := latH.out hfb fc1 W hE.b
    have f2 := latH.out hfb fc2 W hE.b
    have f3 := latH.out hfb fc3 W hE.b
    clear hE fc0 fc1 fc2 fc3
    go_upto_region 4 with fail
    have hV : Hid (PG w (W.alloc (objF F)) M g) := hEH.out.later (boxed _ _)
    have bF := boxF_new W F
    generalize W.heap.size = FB at *
    generalize W.alloc (objF F) = V at *
    obtain ⟨b0, b1, b2, b3⟩ := bF
    clear p0 p1 p2 p3 z0 z1 z2 z3 f0 f1 f2 f3 hEH hfix
    have z0 := hV.out.gb.c0
    have z2 := hV.out.gb.c2
    have z3 := hV.out.gb.c3
    by_cases c2 : g.pc < 0
    · have e := Rfalse hR2 fun q => by have := q.1; omega
      subst e
      clear hR2 hlF hM hg
      go_wp2
      go_ret
      exact ⟨rfl, hV.out.b⟩
    by_cases c3 : g.pc < F.code.length
    · obtain ⟨m1, m2⟩ := insAt_mem (code := F.code) (pc := g.pc) (by omega) c3
      obtain ⟨ib, io, hix, hib, ic0, _⟩ := ins_ix hlF.1 g.pc.toNat _ m1
      rw [show ((g.pc.toNat : Nat) : Int) = g.pc by omega] at hix
      replace ic0 := latH.out hib ic0 V hV.out.b
      have hop := (hlF.2.2.1 _ m2).1
      have hR3 : Hid (R = true ↔ (((g.st = 1 ∨ g.st = 2) ∧ g.why = 0 ∧ tz g.rg F.regs.toNat) ∨ (g.st = 5 ∧ g.why = 0 ∧ tz g.rg F.regs.toNat ∧ locP (insAt F.code g.pc).op) ∨ (g.st = 3 ∧ g.why = 0 ∧ tz g.rg 0 ∧ (insAt F.code g.pc).op = 45) ∨ (g.st = 4 ∧ tz g.rg 0 ∧ failB (insAt F.code g.pc).op g.why))) := by
        show _ ↔ _
        rw [hR2.out]
        exact ⟨fun q => q.2.2, fun q => ⟨by omega, c3, q⟩⟩
      have cL := prog.local_any (insAt F.code g.pc).op hop.1 hop.2 V (hFH.out.later hV.out.b) _ rfl
      rw [loc_lcB] at cL
      have cM : ∀ (Q : Bool), Hid (Q = true ↔ failB (insAt F.code g.pc).op g.why) → Calls Tryd.prog 43 #[.int .i64 (insAt F.code g.pc).op, .int .i64 g.why] V fun e w' => e = .returned (.bool Q) ∧ w' = V := fun Q hQ => mayFail_any _ _ Q hQ V
      have hrr := hV.out.gb.regs hl
      obtain ⟨ad, hsl, hrd⟩ := sl_drop Tryd.underlying28 (fun wx => Tryd.sizeOf2 wx) hrr (by rw [List.length_map, hl]) F.regs.toNat (by omega)
      rw [show ((F.regs.toNat : Nat) : Int) = F.regs by omega] at hsl
      have hsa := sl_all (t := 28) Tryd.underlying28 (fun wx => Tryd.sizeOf2 wx) (w.heap.size + 1) 4 (by omega)
      have edl : (g.rg.drop F.regs.toNat).length = 8 - F.regs.toNat := by rw [List.length_drop, hl]
      have cB : ∀ (Q : Bool), Hid (Q = true ↔ tz g.rg F.regs.toNat) → Calls Tryd.prog 40 #[.slice (some ad) (8 - F.regs.toNat) (8 - F.regs.toNat)] V fun e w' => e = .returned (.bool Q) ∧ w' = V := fun Q hQ => by
        have := blank_i64 (g.rg.drop F.regs.toNat) (some ad) (8 - F.regs.toNat) V (by rw [List.map_drop]; exact hrd) Q (by show _ ↔ _; rw [hQ.out, tz_drop])
        rwa [edl] at this
      have cA : ∀ (Q : Bool), Hid (Q = true ↔ tz g.rg 0) → Calls Tryd.prog 40 #[.slice (some ⟨w.heap.size + 1, 4, none⟩) 8 8] V fun e w' => e = .returned (.bool Q) ∧ w' = V := fun Q hQ => by
        have := blank_i64 g.rg (some ⟨w.heap.size + 1, 4, none⟩) 8 V hrr Q (by show _ ↔ _; rw [hQ.out, tz_all])
        rwa [hl] at this
      clear hR2 hlF hM hg hrr hrd edl hop m1 m2 hib latH hFH
      generalize (insAt F.code g.pc).op = op at *
      generalize hst : g.st = st at *
      generalize hwy : g.why = why at *
      have dpc : ¬ g.pc < 0 := c2
      clear hst hwy
      by_cases s1 : st = 1
      · subst s1
        by_cases y : why = 0
        · subst y
          have hX : Hid (R = true ↔ tz g.rg F.regs.toNat) := by
            show _ ↔ _
            rw [hR3.out]
            constructor
            · intro q
              rcases q with q | q | q | q
              · exact q.2.2
              · omega
              · omega
              · omega
            · intro q
              exact .inl ⟨by omega, rfl, q⟩
          have cX := cB R hX
          clear hR3 cB cA cM cL hX
          go_wp2_with (go_at_call 40; (with_reducible refine cX.mono ?_); rintro e w2 ⟨rfl, rfl⟩)
          go_ret
          exact ⟨rfl, hV.out.b⟩
        · have e := Rfalse hR3 fun q => by omega
          subst e
          have d : (why == 0) = false := by simpa using y
          clear hR3 cB cA cM cL y
          go_wp2
          go_ret
          exact ⟨rfl, hV.out.b⟩
      by_cases s2 : st = 2
      · subst s2
        by_cases y : why = 0
        · subst y
          have hX : Hid (R = true ↔ tz g.rg F.regs.toNat) := by
            show _ ↔ _
            rw [hR3.out]
            constructor
            · intro q
              rcases q with q | q | q | q
              · exact q.2.2
              · omega
              · omega
              · omega
            · intro q
              exact .inl ⟨by omega, rfl, q⟩
          have cX := cB R hX
          clear hR3 cB cA cM cL hX
          go_wp2_with (go_at_call 40; (with_reducible refine cX.mono ?_); rintro e w2 ⟨rfl, rfl⟩)
          go_ret
          exact ⟨rfl, hV.out.b⟩
        · have e := Rfalse hR3 fun q => by omega
          subst e
          have d : (why == 0) = false := by simpa using y
          clear hR3 cB cA cM cL y
          go_wp2
          go_ret
          exact ⟨rfl, hV.out.b⟩
      by_cases s5 : st = 5
      · subst s5
        by_cases y : why = 0
        · subst y
          by_cases z : tz g.rg F.regs.toNat
          · have cX := cB true ⟨fun _ => z, fun _ => rfl⟩
            have e : lcB op = R := by
              rw [Bool.eq_iff_iff, hR3.out]
              show decide (locP op) = true ↔ _
              rw [decide_eq_true_iff]
              constructor
              · intro q; exact .inr (.inl ⟨rfl, rfl, z, q⟩)
              · intro q; rcases q with q | q | q | q
                · omega
                · exact q.2.2.2
                · omega
                · omega
            rw [e] at cL
            clear hR3 cB cA cM z e
            go_wp2_with (first | (go_at_call 40; (with_reducible refine cX.mono ?_); rintro e w2 ⟨rfl, rfl⟩) | (go_at_call 34; (with_reducible refine cL.mono ?_); rintro e w3 ⟨rfl, rfl⟩))
            go_ret
            exact ⟨rfl, hV.out.b⟩
          · have cX := cB false ⟨fun q => (by cases q), fun q => absurd q z⟩
            have e := Rfalse hR3 fun q => by
              rcases q with q | q | q | q
              · omega
              · exact z q.2.2.1
              · omega
              · omega
            subst e
            clear hR3 cB cA cM z cL
            go_wp2_with (go_at_call 40; (with_reducible refine cX.mono ?_); rintro e w2 ⟨rfl, rfl⟩)
            go_ret
            exact ⟨rfl, hV.out.b⟩
        · have e := Rfalse hR3 fun q => by omega
          subst e
          have d : (why == 0) = false := by simpa using y
          clear hR3 cB cA cM cL y
          go_wp2
          go_ret
          exact ⟨rfl, hV.out.b⟩
      by_cases s3 : st = 3
      · subst s3
        by_cases y : why = 0
        · subst y
          by_cases z : tz g.rg 0
          · have cX := cA true ⟨fun _ => z, fun _ => rfl⟩
            by_cases o : op = 45
            · subst o
              have e := Rtrue hR3 (.inr (.inr (.inl ⟨rfl, rfl, z, rfl⟩)))
              subst e
              clear hR3 cB cA cM cL z
              go_wp2_with (go_at_call 40; (with_reducible refine cX.mono ?_); rintro e w2 ⟨rfl, rfl⟩)
              go_ret
              exact ⟨rfl, hV.out.b⟩
            · have e := Rfalse hR3 fun q => by
                rcases q with q | q | q | q
                · omega
                · omega
                · exact o q.2.2.2
                · omega
              subst e
              have d : (op == 45) = false := by simpa using o
              clear hR3 cB cA cM cL z o
              go_wp2_with (go_at_call 40; (with_reducible refine cX.mono ?_); rintro e w2 ⟨rfl, rfl⟩)
              go_ret
              exact ⟨rfl, hV.out.b⟩
          · have cX := cA false ⟨fun q => (by cases q), fun q => absurd q z⟩
            have e := Rfalse hR3 fun q => by
              rcases q with q | q | q | q
              · omega
              · omega
              · exact z q.2.2.1
              · omega
            subst e
            clear hR3 cB cA cM cL z
            go_wp2_with (go_at_call 40; (with_reducible refine cX.mono ?_); rintro e w2 ⟨rfl, rfl⟩)
            go_ret
            exact ⟨rfl, hV.out.b⟩
        · have e := Rfalse hR3 fun q => by omega
          subst e
          have d : (why == 0) = false := by simpa using y
          clear hR3 cB cA cM cL y
          go_wp2
          go_ret
          exact ⟨rfl, hV.out.b⟩
      by_cases s4 : st = 4
      · subst s4
        by_cases z : failB op why
        · have cM2 := cM true ⟨fun _ => z, fun _ => rfl⟩
          have hX : Hid (R = true ↔ tz g.rg 0) := by
            show _ ↔ _
            rw [hR3.out]
            constructor
            · intro q
              rcases q with q | q | q | q
              · omega
              · omega
              · omega
              · exact q.2.1
            · intro q
              exact .inr (.inr (.inr ⟨rfl, q, z⟩))
          have cX := cA R hX
          clear hR3 cB cA cM cL z
          go_wp2_with (first | (go_at_call 43; (with_reducible refine cM2.mono ?_); rintro e w2 ⟨rfl, rfl⟩) | (go_at_call 40; (with_reducible refine cX.mono ?_); rintro e w3 ⟨rfl, rfl⟩))
          go_ret
          exact ⟨rfl, hV.out.b⟩
        · have cM2 := cM false ⟨fun q => (by cases q), fun q => absurd q z⟩
          have e := Rfalse hR3 fun q => by
            rcases q with q | q | q | q
            · omega
            · omega
            · omega
            · exact z q.2.2
          subst e
          clear hR3 cB cA cM cL z
          go_wp2_with (go_at_call 43; (with_reducible refine cM2.mono ?_); rintro e w2 ⟨rfl, rfl⟩)
          go_ret
          exact ⟨rfl, hV.out.b⟩
      have e := Rfalse hR3 fun q => by omega
      subst e
      have d1 : (st == 1) = false := by simpa using s1
      have d2 : (st == 2) = false := by simpa using s2
      have d3 : (st == 3) = false := by simpa using s3
      have d4 : (st == 4) = false := by simpa using s4
      have d5 : (st == 5) = false := by simpa using s5
      clear hR3 cB cA cM cL s1 s2 s3 s4 s5
      go_wp2
      go_ret
      exact ⟨rfl, hV.out.b⟩
    · have e := Rfalse hR2 fun q => c3 q.2.1
      subst e
      have d2 : ¬ g.pc < 0 := c2
      clear hR2 hlF hM hg
      go_wp2
      go_ret
      exact ⟨rfl, hV.out.b⟩
  · have e := Rfalse hR fun q => c1 (by have := q.2.1; have h2 : ((M.fns.map MFn.fn).length : Int) = M.fns.length := by rw [List.length_map]
                                        show g.fn < (M.fns.length : Int); rw [← h2]; exact this)
    subst e
    clear hR hM hF hok hg
    have hE := pg_new w M g
    go_enter Tryd.func26, Tryd.ntmps26
    go_upto_region 1 with fail
    generalize (w.alloc (objP M)).alloc (objG g) = W at *
    have hEH : Hid (PG w W M g) := hE
    obtain ⟨p0, p1, p2, p3⟩ := hE.p
    have z0 := hE.gb.c0
    have z1 := hE.gb.c1
    have z2 := hE.gb.c2
    have z3 := hE.gb.c3
    clear hE
    go_wp2
    go_ret
    exact ⟨rfl, hEH.out.b⟩
end Go.Proofs.YtjcmhaaohdmjpaaDoor.pg
/- Can a channel be so by itself; does a goroutine wait at a send: package state's holds and sends. -/
namespace Go.Proofs.YtjcmhaaohdmjpaaDoor.pg
open Go.ChangeShapes Go.WideShapes Go.ChangeAt Go.RowKit
set_option linter.unusedVariables false
set_option linter.unusedSimpArgs false
set_option maxRecDepth 100000
def InC (w : World) (B : Nat) (c : Chc) : Prop := w.heap[B]? = some (objCh c)
theorem InC.lt {w : World} {B : Nat} {x : Chc} (h : InC w B x) : B < w.heap.size := (Array.getElem?_eq_some_iff.mp h).1
theorem InC.later {w w' : World} {B : Nat} {x : Chc} (h : InC w B x) (hb : Below w.heap.size w w') : InC w' B x := (hb.block B h.lt).trans h
theorem InC.at {w : World} {B : Nat} {c : Chc} (h : InC w B c) (hc : c.wf) (j : Nat) (v : Value) (hv : ([.int .i64 c.ln, .bool c.shut, .int .i64 c.off, .int .i64 c.frm, .int .i64 c.val] : List Value)[j]? = some v) : w.cell? ⟨B, 4 + j, none⟩ = some v := by
  refine cell_ofG h ?_
  have hl : (ints c.buf).length = 4 := by simp [hc.2.2.2.2.1]
  rw [List.getElem?_toArray, Chc.cells, List.getElem?_append_right (by omega), hl, Nat.add_sub_cancel_left]
  exact hv
theorem InC.bufs {w : World} {B : Nat} {c : Chc} (h : InC w B c) (hl : c.buf.length = 4) : Rows w 1 (some ⟨B, 0, none⟩) 4 (c.buf.map chCells) :=
  rows_of h _ (fun r hr => by obtain ⟨x, _, rfl⟩ := List.mem_map.mp hr; rfl) (by rw [List.length_map, hl]; omega) (by omega) [] [.int .i64 c.ln, .bool c.shut, .int .i64 c.off, .int .i64 c.frm, .int .i64 c.val] (by rw [← ints_flat]; rfl) rfl
set_option maxHeartbeats 2000000 in
theorem holds_any (c : Chc) (room : Int) (hc : c.wf) (h4 : room ≤ 4) (w : World) (R : Bool) (hR : Hid (R = true ↔ holdsC c room)) :
    Calls Tryd.prog 27 #[c.vl, .int .i64 room] w fun e w' => e = .returned (.bool R) ∧ Below w.heap.size w w' := by
  have hE : InC (w.alloc (objCh c)) w.heap.size c := heap_alloc_new w _
  have hb := boxed w (objCh c)
  go_enter Tryd.func27, Tryd.ntmps27
  go_upto_region 1 with fail
  generalize w.alloc (objCh c) = W at *
  have hbH : Hid (Below w.heap.size w W) := hb
  have z4 := hE.at hc 0 _ rfl
  have z5 := hE.at hc 1 _ rfl
  have z6 := hE.at hc 2 _ rfl
  have z7 := hE.at hc 3 _ rfl
  have z8 := hE.at hc 4 _ rfl
  simp only [Nat.reduceAdd] at z4 z5 z6 z7 z8
  have hl := hc.2.2.2.2.1
  have hrr := hE.bufs hl
  clear hE hb hc
  by_cases c0 : c.ln < 0
  · have e := Rfalse hR fun q => by have := q.1; omega
    subst e
    clear hR hrr
    go_wp2
    go_ret
    exact ⟨rfl, hbH.out⟩
  by_cases c1 : room < c.ln
  · have e := Rfalse hR fun q => by have := q.2.1; omega
    subst e
    clear hR hrr
    go_wp2
    go_ret
    exact ⟨rfl, hbH.out⟩
  obtain ⟨ad, hsl, hrd⟩ := sl_drop Tryd.underlying30 (fun wx => Tryd.sizeOf2 wx) hrr (by rw [List.length_map, hl]) c.ln.toNat (by omega)
  rw [show ((c.ln.toNat : Nat) : Int) = c.ln by omega] at hsl
  have edl : (c.buf.drop c.ln.toNat).length = 4 - c.ln.toNat := by rw [List.length_drop, hl]
  have cB : ∀ (Q : Bool), Hid (Q = true ↔ tz c.buf c.ln.toNat) → Calls Tryd.prog 40 #[.slice (some ad) (4 - c.ln.toNat) (4 - c.ln.toNat)] W fun e w' => e = .returned (.bool Q) ∧ w' = W := fun Q hQ => by
    have := blank_i64 (c.buf.drop c.ln.toNat) (some ad) (4 - c.ln.toNat) W (by rw [List.map_drop]; exact hrd) Q (by show _ ↔ _; rw [hQ.out, tz_drop])
    rwa [edl] at this
  clear hrr hrd edl
  by_cases z : tz c.buf c.ln.toNat
  · have cX := cB true ⟨fun _ => z, fun _ => rfl⟩
    have hR3 : Hid (R = true ↔ ((c.off = 0 ∧ c.frm = 0 ∧ c.val = 0) ∨ (c.off = 1 ∧ room = 0 ∧ c.shut = false) ∨ (c.off = 2 ∧ room = 0 ∧ c.val = 0) ∨ (c.off = 3 ∧ room = 0 ∧ c.val = 0 ∧ c.shut = true))) := by
      show _ ↔ _
      rw [hR.out]
      exact ⟨fun q => q.2.2.2, fun q => ⟨by omega, by omega, z, q⟩⟩
    clear hR cB z
    generalize c.off = off at *
    generalize c.frm = frm at *
    generalize c.val = val at *
    generalize c.shut = shut at *
    have d0 : ¬ c.ln < 0 := c0
    have d1 : ¬ room < c.ln := c1
    by_cases o0 : off = 0
    · subst o0
      by_cases vfrm : frm = 0
      · subst vfrm
        by_cases vval : val = 0
        · subst vval
          have e := Rtrue hR3 (by simp)
          subst e
          clear hR3
          go_wp2_with (go_at_call 40; (with_reducible refine cX.mono ?_); rintro e w2 ⟨rfl, rfl⟩)
          go_ret
          exact ⟨rfl, hbH.out⟩
        · have e := Rfalse hR3 (by simp [vval])
          subst e
          have dval : (val == 0) = false := by simpa using vval
          clear hR3 vval
          go_wp2_with (go_at_call 40; (with_reducible refine cX.mono ?_); rintro e w2 ⟨rfl, rfl⟩)
          go_ret
          exact ⟨rfl, hbH.out⟩
      · have e := Rfalse hR3 (by simp [vfrm])
        subst e
        have dfrm : (frm == 0) = false := by simpa using vfrm
        clear hR3 vfrm
        go_wp2_with (go_at_call 40; (with_reducible refine cX.mono ?_); rintro e w2 ⟨rfl, rfl⟩)
        go_ret
        exact ⟨rfl, hbH.out⟩
    by_cases o1 : off = 1
    · subst o1
      by_cases vroom : room = 0
      · subst vroom
        cases shut with
        | false =>
          have e := Rtrue hR3 (by simp)
          subst e
          clear hR3
          go_wp2_with (go_at_call 40; (with_reducible refine cX.mono ?_); rintro e w2 ⟨rfl, rfl⟩)
          go_ret
          exact ⟨rfl, hbH.out⟩
        | true =>
          have e := Rfalse hR3 (by simp)
          subst e
          clear hR3
          go_wp2_with (go_at_call 40; (with_reducible refine cX.mono ?_); rintro e w2 ⟨rfl, rfl⟩)
          go_ret
          exact ⟨rfl, hbH.out⟩
      · have e := Rfalse hR3 (by simp [vroom])
        subst e
        have droom : (room == 0) = false := by simpa using vroom
        clear hR3 vroom
        go_wp2_with (go_at_call 40; (with_reducible refine cX.mono ?_); rintro e w2 ⟨rfl, rfl⟩)
        go_ret
        exact ⟨rfl, hbH.out⟩
    by_cases o2 : off = 2
    · subst o2
      by_cases vroom : room = 0
      · subst vroom
        by_cases vval : val = 0
        · subst vval
          have e := Rtrue hR3 (by simp)
          subst e
          clear hR3
          go_wp2_with (go_at_call 40; (with_reducible refine cX.mono ?_); rintro e w2 ⟨rfl, rfl⟩)
          go_ret
          exact ⟨rfl, hbH.out⟩
        · have e := Rfalse hR3 (by simp [vval])
          subst e
          have dval : (val == 0) = false := by simpa using vval
          clear hR3 vval
          go_wp2_with (go_at_call 40; (with_reducible refine cX.mono ?_); rintro e w2 ⟨rfl, rfl⟩)
          go_ret
          exact ⟨rfl, hbH.out⟩
      · have e := Rfalse hR3 (by simp [vroom])
        subst e
        have droom : (room == 0) = false := by simpa using vroom
        clear hR3 vroom
        go_wp2_with (go_at_call 40; (with_reducible refine cX.mono ?_); rintro e w2 ⟨rfl, rfl⟩)
        go_ret
        exact ⟨rfl, hbH.out⟩
    by_cases o3 : off = 3
    · subst o3
      by_cases vroom : room = 0
      · subst vroom
        by_cases vval : val = 0
        · subst vval
          cases shut with
          | false =>
            have e := Rfalse hR3 (by simp)
            subst e
            clear hR3
            go_wp2_with (go_at_call 40; (with_reducible refine cX.mono ?_); rintro e w2 ⟨rfl, rfl⟩)
            go_ret
            exact ⟨rfl, hbH.out⟩
          | true =>
            have e := Rtrue hR3 (by simp)
            subst e
            clear hR3
            go_wp2_with (go_at_call 40; (with_reducible refine cX.mono ?_); rintro e w2 ⟨rfl, rfl⟩)
            go_ret
            exact ⟨rfl, hbH.out⟩
        · have e := Rfalse hR3 (by simp [vval])
          subst e
          have dval : (val == 0) = false := by simpa using vval
          clear hR3 vval
          go_wp2_with (go_at_call 40; (with_reducible refine cX.mono ?_); rintro e w2 ⟨rfl, rfl⟩)
          go_ret
          exact ⟨rfl, hbH.out⟩
      · have e := Rfalse hR3 (by simp [vroom])
        subst e
        have droom : (room == 0) = false := by simpa using vroom
        clear hR3 vroom
        go_wp2_with (go_at_call 40; (with_reducible refine cX.mono ?_); rintro e w2 ⟨rfl, rfl⟩)
        go_ret
        exact ⟨rfl, hbH.out⟩
    have e := Rfalse hR3 (by simp [o0, o1, o2, o3])
    subst e
    have e0 : (off == 0) = false := by simpa using o0
    have e1 : (off == 1) = false := by simpa using o1
    have e2 : (off == 2) = false := by simpa using o2
    have e3 : (off == 3) = false := by simpa using o3
    clear hR3 o0 o1 o2 o3
    go_wp2_with (go_at_call 40; (with_reducible refine cX.mono ?_); rintro e w2 ⟨rfl, rfl⟩)
    go_ret
    exact ⟨rfl, hbH.out⟩
  · have cX := cB false ⟨fun q => (by cases q), fun q => absurd q z⟩
    have e := Rfalse hR fun q => z q.2.2.1
    subst e
    have d0 : ¬ c.ln < 0 := c0
    have d1 : ¬ room < c.ln := c1
    clear hR cB z
    go_wp2_with (go_at_call 40; (with_reducible refine cX.mono ?_); rintro e w2 ⟨rfl, rfl⟩)
    go_ret
    exact ⟨rfl, hbH.out⟩
set_option maxHeartbeats 2000000 in
theorem sends_any (M : MPr) (g : Gr) (n : Int) (n0 : 0 ≤ g.fn) (n1 : g.fn < M.fns.length) (p0 : 0 ≤ g.pc) (p1 : g.pc < (fnAt M.pr g.fn).code.length) (w : World) (hM : M.lies w) (R : Bool) (hR : Hid (R = true ↔ sendsC M.pr g n)) :
    Calls Tryd.prog 44 #[M.val, g.val, .int .i64 n] w fun e w' => e = .returned (.bool R) ∧ Below w.heap.size w w' := by
  obtain ⟨F, hFi, hFm⟩ : ∃ F, M.fns[g.fn.toNat]? = some F ∧ F ∈ M.fns := get_lt _ _ (by omega)
  have eF := fnAt_M hFi
  rw [eF] at p1
  have p1' : g.pc < F.code.length := p1
  have hR2 : Hid (R = true ↔ (g.st = 2 ∧ (insAt F.code g.pc).op = 58 ∧ (insAt F.code g.pc).a = n)) := by
    show _ ↔ _
    rw [hR.out]
    unfold sendsC
    rw [eF]
    exact Iff.rfl
  obtain ⟨m1, m2⟩ := insAt_mem (code := F.code) p0 p1'
  obtain ⟨fb, fo, hfix, hfb, fc0, fc1, fc2, fc3⟩ := fn_ix hM.2.2.1 g.fn.toNat F hFi
  obtain ⟨ib, io, hix, hib, ic0, ic1, ic2, ic3, ic4⟩ := ins_ix ((hM.2.2.2.2.2.2 F hFm).1) g.pc.toNat _ m1
  rw [show ((g.pc.toNat : Nat) : Int) = g.pc by omega] at hix
  rw [show ((g.fn.toNat : Nat) : Int) = g.fn by omega] at hfix
  have lat : ∀ {b q : Nat} {v : Value}, b < w.heap.size → w.cell? ⟨b, q, none⟩ = some v → ∀ w', Below w.heap.size w w' → w'.cell? ⟨b, q, none⟩ = some v := fun {b q v} hb hv w' hw' => (hw'.cell (p := ⟨b, q, none⟩) hb).trans hv
  generalize insAt F.code g.pc = i at *
  have hrg : w.rangeAt ib io i.cells := fun q v hv => by
    match q, hv with
    | 0, hv => cases hv; exact ic0
    | 1, hv => cases hv; exact ic1
    | 2, hv => cases hv; exact ic2
    | 3, hv => cases hv; exact ic3
    | 4, hv => cases hv; exact ic4
  have hs0 := pg_new w M g
  clear hR eF p1 p1' hFm hFi hM m1 m2
  go_enter Tryd.func44, Tryd.ntmps44
  go_upto_region 1 with fail
  generalize (w.alloc (objP M)).alloc (objG g) = wr at *
  have hsH : Hid (PG w wr M g) := hs0
  clear hs0
  go_wp2_with fail
  obtain ⟨ZI, hZ1, hZ2, _⟩ := zero_big (P := Tryd.prog) (t := 74) (n := 5) (by kernel_rfl)
  have hH : Below wr.heap.size wr wr.drew := bey_drew wr
  refine wp_region_held_drew (S := fun w' => Below wr.heap.size wr w') (by kernel_rfl) hH (fun _ => ?_)
  refine reg_move (i := 0) rfl (by kernel_rfl) (by kernel_rfl) (by kernel_rfl) (fun _ _ _ _ h => h) rfl (.pointer (some ⟨w.heap.size, 3, none⟩)) (fun _ => by kernel_rfl) hH ?_
  simp only [Act.put, List.getElem_toArray, List.getElem_cons_succ, List.getElem_cons_zero, List.setIfInBounds_toArray, List.set_cons_zero, List.set_cons_succ]
  refine reg_load1 (i := 1) rfl (by kernel_rfl) (by kernel_rfl) (by kernel_rfl) (fun _ _ _ _ h => h) rfl 24 _ rfl ⟨w.heap.size, 3, none⟩ rfl _ Tryd.underlying24 rfl (.slice M.fa M.fns.length M.fcap) (fun w' h' => (hsH.out.p.later h').2.2.2) hH ?_
  simp only [Act.put, List.getElem_toArray, List.getElem_cons_succ, List.getElem_cons_zero, List.setIfInBounds_toArray, List.set_cons_zero, List.set_cons_succ]
  refine reg_move (i := 2) rfl (by kernel_rfl) (by kernel_rfl) (by kernel_rfl) (fun _ _ _ _ h => h) rfl (.pointer (some ⟨w.heap.size + 1, 1, none⟩)) (fun _ => by kernel_rfl) hH ?_
  simp only [Act.put, List.getElem_toArray, List.getElem_cons_succ, List.getElem_cons_zero, List.setIfInBounds_toArray, List.set_cons_zero, List.set_cons_succ]
  refine reg_load1 (i := 3) rfl (by kernel_rfl) (by kernel_rfl) (by kernel_rfl) (fun _ _ _ _ h => h) rfl 3 _ rfl ⟨w.heap.size + 1, 1, none⟩ rfl _ Tryd.underlying3 rfl _ (fun w' h' => (hsH.out.gb.later h').c1) hH ?_
  simp only [Act.put, List.getElem_toArray, List.getElem_cons_succ, List.getElem_cons_zero, List.setIfInBounds_toArray, List.set_cons_zero, List.set_cons_succ]
  refine reg_move (i := 4) rfl (by kernel_rfl) (by kernel_rfl) (by kernel_rfl) (fun _ _ _ _ h => h) rfl (.pointer (some ⟨fb, fo, none⟩)) (fun wx => by unfold execOp; exact run_valueS (hfix wx)) hH ?_
  simp only [Act.put, List.getElem_toArray, List.getElem_cons_succ, List.getElem_cons_zero, List.setIfInBounds_toArray, List.set_cons_zero, List.set_cons_succ]
  refine reg_move (i := 5) rfl (by kernel_rfl) (by kernel_rfl) (by kernel_rfl) (fun _ _ _ _ h => h) rfl (.pointer (some ⟨fb, fo + 2, none⟩)) (fun _ => by kernel_rfl) hH ?_
  simp only [Act.put, List.getElem_toArray, List.getElem_cons_succ, List.getElem_cons_zero, List.setIfInBounds_toArray, List.set_cons_zero, List.set_cons_succ]
  refine reg_load1 (i := 6) rfl (by kernel_rfl) (by kernel_rfl) (by kernel_rfl) (fun _ _ _ _ h => h) rfl 55 _ rfl ⟨fb, fo + 2, none⟩ rfl _ Tryd.underlying55 rfl (.slice F.ca F.code.length F.ccap) (fun w' h' => lat hfb fc2 w' (bthen hsH.out.b h')) hH ?_
  simp only [Act.put, List.getElem_toArray, List.getElem_cons_succ, List.getElem_cons_zero, List.setIfInBounds_toArray, List.set_cons_zero, List.set_cons_succ]
  refine reg_move (i := 7) rfl (by kernel_rfl) (by kernel_rfl) (by kernel_rfl) (fun _ _ _ _ h => h) rfl (.pointer (some ⟨w.heap.size + 1, 2, none⟩)) (fun _ => by kernel_rfl) hH ?_
  simp only [Act.put, List.getElem_toArray, List.getElem_cons_succ, List.getElem_cons_zero, List.setIfInBounds_toArray, List.set_cons_zero, List.set_cons_succ]
  refine reg_load1 (i := 8) rfl (by kernel_rfl) (by kernel_rfl) (by kernel_rfl) (fun _ _ _ _ h => h) rfl 3 _ rfl ⟨w.heap.size + 1, 2, none⟩ rfl _ Tryd.underlying3 rfl _ (fun w' h' => (hsH.out.gb.later h').c2) hH ?_
  simp only [Act.put, List.getElem_toArray, List.getElem_cons_succ, List.getElem_cons_zero, List.setIfInBounds_toArray, List.set_cons_zero, List.set_cons_succ]
  refine reg_move (i := 9) rfl (by kernel_rfl) (by kernel_rfl) (by kernel_rfl) (fun _ _ _ _ h => h) rfl (.pointer (some ⟨ib, io, none⟩)) (fun wx => by unfold execOp; exact run_valueS (hix wx)) hH ?_
  simp only [Act.put, List.getElem_toArray, List.getElem_cons_succ, List.getElem_cons_zero, List.setIfInBounds_toArray, List.set_cons_zero, List.set_cons_succ]
  refine reg_load (i := 10) rfl (by kernel_rfl) (by kernel_rfl) (by kernel_rfl) (fun _ _ _ _ h => h) rfl 74 _ rfl ib io rfl i.cells _ (fun w' h' => fun q v hv => lat hib (hrg q v hv) w' (bthen hsH.out.b h')) Tryd.underlying74 rfl (by kernel_rfl) hH ?_
  simp only [Act.put, List.getElem_toArray, List.getElem_cons_succ, List.getElem_cons_zero, List.setIfInBounds_toArray, List.set_cons_zero, List.set_cons_succ]
  have hH1 : Below wr.heap.size wr (wr.drew.alloc (.cells ZI 74)) := bthen hH (boxed _ _)
  refine reg_one (i := 11) (by kernel_rfl) rfl rfl (wpList_alloc_big rfl 74 rfl hZ1 (wpList_nil (And.intro hH1 fun _ => ?_)))
  simp only [Act.put, List.getElem_toArray, List.getElem_cons_succ, List.getElem_cons_zero, List.setIfInBounds_toArray, List.set_cons_zero, List.set_cons_succ]
  have hH2 : Below wr.heap.size wr (wr.drew.alloc (.cells i.cells.toArray 74)) := bthen hH (boxed _ _)
  refine reg_one (i := 12) (by kernel_rfl) rfl rfl (wpList_store_new (w := wr.drew) rfl 74 _ _ rfl rfl ZI i.cells.toArray rfl (by kernel_rfl) hZ2 (by simp [Ins.cells, Value.oneCell']) (wpList_nil (And.intro hH2 fun _ => ?_)))
  simp only [Act.put, List.getElem_toArray, List.getElem_cons_succ, List.getElem_cons_zero, List.setIfInBounds_toArray, List.set_cons_zero, List.set_cons_succ]
  refine wpAnyH_done (by kernel_rfl) ?_ _
  have hV : Hid (PG w (wr.drew.alloc (.cells i.cells.toArray 74)) M g) := hsH.out.later hH2
  have hIb : (wr.drew.alloc (.cells i.cells.toArray 74)).heap[wr.heap.size]? = some (.cells i.cells.toArray 74) := heap_alloc_new wr.drew _
  have bI : BoxI (wr.drew.alloc (.cells i.cells.toArray 74)) wr.heap.size i := ⟨cell_ofG hIb rfl, cell_ofG hIb rfl, cell_ofG hIb rfl, cell_ofG hIb rfl, cell_ofG hIb rfl⟩
  have hszI : wr.drew.heap.size = wr.heap.size := rfl
  rw [hszI]
  generalize wr.drew.alloc (.cells i.cells.toArray 74) = V at *
  generalize wr.heap.size = IB at *
  clear hH hH1 hH2 hIb hszI hix hfix hrg ic0 ic1 ic2 ic3 ic4 fc0 fc1 fc2 fc3 lat hZ1 hZ2 hsH hfb hib
  obtain ⟨i0, i1, i2, i3, i4⟩ := bI
  have z0 := hV.out.gb.c0
  obtain ⟨op, a, b, c, nn⟩ := i
  simp only at i0 i1 i2 i3 i4
  have hR3 : Hid (R = true ↔ (g.st = 2 ∧ op = 58 ∧ a = n)) := hR2
  clear hR2
  generalize g.st = st at *
  by_cases s2 : st = 2
  · subst s2
    by_cases o : op = 58
    · subst o
      by_cases q : a = n
      · subst q
        have e := Rtrue hR3 ⟨rfl, rfl, rfl⟩
        subst e
        clear hR3
        go_wp2
        go_ret
        exact ⟨by simp, hV.out.b⟩
      · have e := Rfalse hR3 fun z => q z.2.2
        subst e
        have d : (a == n) = false := by simpa using q
        clear hR3 q
        go_wp2
        go_ret
        exact ⟨rfl, hV.out.b⟩
    · have e := Rfalse hR3 fun z => o z.2.1
      subst e
      have d : (op == 58) = false := by simpa using o
      clear hR3 o
      go_wp2
      go_ret
      exact ⟨rfl, hV.out.b⟩
  · have e := Rfalse hR3 fun z => s2 z.1
    subst e
    have d : (st == 2) = false := by simpa using s2
    clear hR3 s2
    go_wp2
    go_ret
    exact ⟨rfl, hV.out.b⟩
end Go.Proofs.YtjcmhaaohdmjpaaDoor.pg
/- Has a state nothing beyond what the program has: package state's fits. -/
namespace Go.Proofs.YtjcmhaaohdmjpaaDoor.pg
open Go.ChangeShapes Go.WideShapes Go.ChangeAt Go.RowKit
set_option linter.unusedVariables false
set_option linter.unusedSimpArgs false
set_option maxRecDepth 100000
theorem drop_iff {α : Type} (l : List α) (d : α) (k n : Nat) (hn : l.length = n) : (∀ x ∈ l.drop k, x = d) ↔ ∀ i, k ≤ i → i < n → l.getD i d = d := by
  constructor
  · intro h i h1 h2
    rw [List.getD_eq_getElem?_getD, List.getElem?_eq_getElem (by omega)]
    refine h _ ?_
    rw [List.mem_drop_iff_getElem]
    exact ⟨i - k, by omega, by congr 1; omega⟩
  · intro h x hx
    rw [List.mem_drop_iff_getElem] at hx
    obtain ⟨i, hi, rfl⟩ := hx
    have := h (k + i) (by omega) (by omega)
    rw [List.getD_eq_getElem?_getD, List.getElem?_eq_getElem (by omega)] at this
    simpa [Nat.add_comm] using this
/-- Two boxes: a program, and a state. -/
structure PS (w W : World) (M : MPr) (s : Sts) : Prop where
  b : Below w.heap.size w W
  p : BoxP W w.heap.size M
  sb : InS W (w.heap.size + 1) s
theorem ps_new (w : World) (M : MPr) (s : Sts) : PS w ((w.alloc (objP M)).alloc (objSt s)) M s := by
  obtain ⟨h1, h2⟩ := two_boxes w (objP M) (objSt s)
  exact ⟨boxed2 _ _ _, ⟨cell_ofG h1 rfl, cell_ofG h1 rfl, cell_ofG h1 rfl, cell_ofG h1 rfl⟩, h2⟩
theorem PS.later {w W W' : World} {M : MPr} {s : Sts} (h : PS w W M s) (hb : Below W.heap.size W W') : PS w W' M s := ⟨bthen h.b hb, h.p.later hb, h.sb.later hb⟩
set_option maxHeartbeats 2000000 in
theorem fits_any (M : MPr) (s : Sts) (hs : s.wf) (l1 : M.vars.length ≤ 8) (l2 : 0 ≤ M.locks) (l3 : M.locks ≤ 4) (l4 : M.chans.length ≤ 4) (w : World) (R : Bool) (hR : Hid (R = true ↔ fitsS M.pr s)) :
    Calls Tryd.prog 25 #[M.val, s.val] w fun e w' => e = .returned (.bool R) ∧ Below w.heap.size w w' := by
  have hE := ps_new w M s
  go_enter Tryd.func25, Tryd.ntmps25
  go_upto_region 1 with fail
  generalize (w.alloc (objP M)).alloc (objSt s) = W at *
  have hEH : Hid (PS w W M s) := hE
  obtain ⟨p0, p1, p2, p3⟩ := hE.p
  have zc := hE.sb.cnt hs
  clear hE
  by_cases c1 : s.cnt < 1
  · have e := Rfalse hR fun q => by have := q.c1; omega
    subst e
    clear hR
    go_wp2
    go_ret
    exact ⟨rfl, hEH.out.b⟩
  by_cases c6 : 6 < s.cnt
  · have e := Rfalse hR fun q => by have := q.c6; omega
    subst e
    clear hR
    go_wp2
    go_ret
    exact ⟨rfl, hEH.out.b⟩
  have d1 : 1 ≤ s.cnt := by omega
  have d6 : s.cnt ≤ 6 := by omega
  -- the four lists
  obtain ⟨ag, slg, rg⟩ := sl_drop Tryd.underlying36 (fun wx => Tryd.sizeOf35 wx) (hEH.out.sb.gos hs) (by rw [List.length_map, hs.lg]) s.cnt.toNat (by omega)
  rw [show ((s.cnt.toNat : Nat) : Int) = s.cnt by omega] at slg
  obtain ⟨av, slv, rv⟩ := sl_drop Tryd.underlying28 (fun wx => Tryd.sizeOf2 wx) (hEH.out.sb.vars hs) (by rw [List.length_map, hs.lv]) M.vars.length l1
  obtain ⟨ao, slo, ro⟩ := sl_drop Tryd.underlying29 (fun wx => Tryd.sizeOf3 wx) (hEH.out.sb.own hs) (by rw [List.length_map, hs.lo]) M.locks.toNat (by omega)
  rw [show ((M.locks.toNat : Nat) : Int) = M.locks by omega] at slo
  obtain ⟨ac, slc, rc⟩ := sl_drop Tryd.underlying33 (fun wx => Tryd.sizeOf32 wx) (hEH.out.sb.chs hs) (by rw [List.length_map, hs.lc]) M.chans.length l4
  have cG : ∀ (Q : Bool), Hid (Q = true ↔ ∀ i, s.cnt.toNat ≤ i → i < 6 → s.gos.getD i zeroG = zeroG) → Calls Tryd.prog 39 #[.slice (some ag) (6 - s.cnt.toNat) (6 - s.cnt.toNat)] W fun e w' => e = .returned (.bool Q) ∧ Below W.heap.size W w' := fun Q hQ => by
    have := blank_go (s.gos.drop s.cnt.toNat) (some ag) (6 - s.cnt.toNat) W (by rw [List.map_drop]; exact rg) (fun x hx => hs.ag x (List.mem_of_mem_drop hx)) Q (by show _ ↔ _; rw [hQ.out, drop_iff _ _ _ 6 hs.lg])
    rwa [List.length_drop, hs.lg] at this
  have cV : ∀ (V : World), Below W.heap.size W V → ∀ (Q : Bool), Hid (Q = true ↔ tz s.vars M.vars.length) → Calls Tryd.prog 40 #[.slice (some av) (8 - M.vars.length) (8 - M.vars.length)] V fun e w' => e = .returned (.bool Q) ∧ w' = V := fun V hV Q hQ => by
    have := blank_i64 (s.vars.drop M.vars.length) (some av) (8 - M.vars.length) V (by rw [List.map_drop]; exact rv.later hV) Q (by show _ ↔ _; rw [hQ.out, tz_drop])
    rwa [List.length_drop, hs.lv] at this
  have cO : ∀ (V : World), Below W.heap.size W V → ∀ (Q : Bool), Hid (Q = true ↔ tz s.own M.locks.toNat) → Calls Tryd.prog 41 #[.slice (some ao) (4 - M.locks.toNat) (4 - M.locks.toNat)] V fun e w' => e = .returned (.bool Q) ∧ w' = V := fun V hV Q hQ => by
    have := blank_int (s.own.drop M.locks.toNat) (some ao) (4 - M.locks.toNat) V (by rw [List.map_drop]; exact ro.later hV) Q (by show _ ↔ _; rw [hQ.out, tz_drop])
    rwa [List.length_drop, hs.lo] at this
  have cC : ∀ (V : World), Below W.heap.size W V → ∀ (Q : Bool), Hid (Q = true ↔ ∀ i, M.chans.length ≤ i → i < 4 → s.ch.getD i zeroC = zeroC) → Calls Tryd.prog 42 #[.slice (some ac) (4 - M.chans.length) (4 - M.chans.length)] V fun e w' => e = .returned (.bool Q) ∧ Below V.heap.size V w' := fun V hV Q hQ => by
    have := blank_ch (s.ch.drop M.chans.length) (some ac) (4 - M.chans.length) V (by rw [List.map_drop]; exact rc.later hV) (fun x hx => hs.ac x (List.mem_of_mem_drop hx)) Q (by show _ ↔ _; rw [hQ.out, drop_iff _ _ _ 4 hs.lc])
    rwa [List.length_drop, hs.lc] at this
  clear rg rv ro rc
  by_cases hG : ∀ i, s.cnt.toNat ≤ i → i < 6 → s.gos.getD i zeroG = zeroG
  rotate_left
  · have e := Rfalse hR fun q => hG q.g
    subst e
    have xG := cG false ⟨fun q => (by cases q), fun q => absurd q hG⟩
    clear hR cG hG
    go_wp2_with (first
      | (go_at_call 39; (with_reducible refine xG.mono ?_); rintro e w2 ⟨rfl, hb2⟩; clear p0 p1 p2 p3 zc; obtain ⟨p0, p1, p2, p3⟩ := hEH.out.p.later hb2; (have hbE : Hid (Below w.heap.size w w2) := bthen hEH.out.b hb2)))
    go_ret
    exact ⟨rfl, hbE.out⟩
  by_cases hV : tz s.vars M.vars.length
  rotate_left
  · have e := Rfalse hR fun q => hV q.v
    subst e
    have xG := cG true ⟨fun _ => hG, fun _ => rfl⟩
    have yV : Hid (Hid (false = true ↔ (tz s.vars M.vars.length))) := ⟨fun q => (by cases q), fun q => absurd q hV⟩
    clear hR cG hG hV
    go_wp2_with (first
      | (go_at_call 39; (with_reducible refine xG.mono ?_); rintro e w2 ⟨rfl, hb2⟩; clear p0 p1 p2 p3 zc; obtain ⟨p0, p1, p2, p3⟩ := hEH.out.p.later hb2; (have hbE : Hid (Below w.heap.size w w2) := bthen hEH.out.b hb2); (have xV := cV _ hb2 false yV.out))
      | (go_at_call 40; (with_reducible refine xV.mono ?_); rintro e w3 ⟨rfl, rfl⟩))
    go_ret
    exact ⟨rfl, hbE.out⟩
  by_cases hO : tz s.own M.locks.toNat
  rotate_left
  · have e := Rfalse hR fun q => hO q.o
    subst e
    have xG := cG true ⟨fun _ => hG, fun _ => rfl⟩
    have yV : Hid (Hid (true = true ↔ (tz s.vars M.vars.length))) := ⟨fun _ => hV, fun _ => rfl⟩
    have yO : Hid (Hid (false = true ↔ (tz s.own M.locks.toNat))) := ⟨fun q => (by cases q), fun q => absurd q hO⟩
    clear hR cG hG hV hO
    go_wp2_with (first
      | (go_at_call 39; (with_reducible refine xG.mono ?_); rintro e w2 ⟨rfl, hb2⟩; clear p0 p1 p2 p3 zc; obtain ⟨p0, p1, p2, p3⟩ := hEH.out.p.later hb2; (have hbE : Hid (Below w.heap.size w w2) := bthen hEH.out.b hb2); (have xV := cV _ hb2 true yV.out); (have xO := cO _ hb2 false yO.out))
      | (go_at_call 40; (with_reducible refine xV.mono ?_); rintro e w3 ⟨rfl, rfl⟩)
      | (go_at_call 41; (with_reducible refine xO.mono ?_); rintro e w4 ⟨rfl, rfl⟩))
    go_ret
    exact ⟨rfl, hbE.out⟩
  by_cases hC : ∀ i, M.chans.length ≤ i → i < 4 → s.ch.getD i zeroC = zeroC
  rotate_left
  · have e := Rfalse hR fun q => hC q.c
    subst e
    have xG := cG true ⟨fun _ => hG, fun _ => rfl⟩
    have yV : Hid (Hid (true = true ↔ (tz s.vars M.vars.length))) := ⟨fun _ => hV, fun _ => rfl⟩
    have yO : Hid (Hid (true = true ↔ (tz s.own M.locks.toNat))) := ⟨fun _ => hO, fun _ => rfl⟩
    have yC : Hid (Hid (false = true ↔ (∀ i, M.chans.length ≤ i → i < 4 → s.ch.getD i zeroC = zeroC))) := ⟨fun q => (by cases q), fun q => absurd q hC⟩
    clear hR cG hG hV hO hC
    go_wp2_with (first
      | (go_at_call 39; (with_reducible refine xG.mono ?_); rintro e w2 ⟨rfl, hb2⟩; clear p0 p1 p2 p3 zc; obtain ⟨p0, p1, p2, p3⟩ := hEH.out.p.later hb2; (have hbE : Hid (Below w.heap.size w w2) := bthen hEH.out.b hb2); (have xV := cV _ hb2 true yV.out); (have xO := cO _ hb2 true yO.out); (have xC := cC _ hb2 false yC.out))
      | (go_at_call 40; (with_reducible refine xV.mono ?_); rintro e w3 ⟨rfl, rfl⟩)
      | (go_at_call 41; (with_reducible refine xO.mono ?_); rintro e w4 ⟨rfl, rfl⟩)
      | (go_at_call 42; (with_reducible refine xC.mono ?_); rintro e w5 ⟨rfl, hb5⟩))
    go_ret
    exact ⟨rfl, bthen hbE.out hb5⟩
  have e := Rtrue hR ⟨d1, d6, hG, hV, hO, hC⟩
  subst e
  have xG := cG true ⟨fun _ => hG, fun _ => rfl⟩
  have yV : Hid (Hid (true = true ↔ (tz s.vars M.vars.length))) := ⟨fun _ => hV, fun _ => rfl⟩
  have yO : Hid (Hid (true = true ↔ (tz s.own M.locks.toNat))) := ⟨fun _ => hO, fun _ => rfl⟩
  have yC : Hid (Hid (true = true ↔ (∀ i, M.chans.length ≤ i → i < 4 → s.ch.getD i zeroC = zeroC))) := ⟨fun _ => hC, fun _ => rfl⟩
  clear hR cG hG hV hO hC
  go_wp2_with (first
    | (go_at_call 39; (with_reducible refine xG.mono ?_); rintro e w2 ⟨rfl, hb2⟩; clear p0 p1 p2 p3 zc; obtain ⟨p0, p1, p2, p3⟩ := hEH.out.p.later hb2; (have hbE : Hid (Below w.heap.size w w2) := bthen hEH.out.b hb2); (have xV := cV _ hb2 true yV.out); (have xO := cO _ hb2 true yO.out); (have xC := cC _ hb2 true yC.out))
    | (go_at_call 40; (with_reducible refine xV.mono ?_); rintro e w3 ⟨rfl, rfl⟩)
    | (go_at_call 41; (with_reducible refine xO.mono ?_); rintro e w4 ⟨rfl, rfl⟩)
    | (go_at_call 42; (with_reducible refine xC.mono ?_); rintro e w5 ⟨rfl, hb5⟩))
  go_ret
  exact ⟨rfl, bthen hbE.out hb5⟩
end Go.Proofs.YtjcmhaaohdmjpaaDoor.pg
