/- A store of one cell, what is left under a name of its own. -/
import Derived.Test.YtgmpdnmheiblpaaDoorM3
import Derived.Test.YtgmpdnmheiblpaaDoorM2
import Derived.Test.YtgmpdnmheiblpaaDoorM8
import Derived.Test.YtgmpdnmheiblpaaDoorM9
import Derived.Deep.DeepCutAuto
namespace Go.Proofs.YtgmpdnmheiblpaaDoor.pg
open Go.ChangeShapes Go.WideShapes Go.ChangeAt Go.RowKit
set_option linter.unusedVariables false
set_option linter.unusedSimpArgs false
theorem wpList_puti {P : Program} {ops : Array Oper} {rest : List Oper} {o : Oper} {a : Act} {w : World} {Q : Exit → Act → World → Prop} (hgd : o.guard = none) (ty : TypeId) (x y : Operand) (ho : o.op = .store ty x y) (ad : Addr) (hx : a.eval x = .pointer (some ad)) (n : Int) (hy : a.eval y = (.int .i64 n)) (hi : (P.info? ty).map (·.size) = some 1) (v : Value) (hc : w.cell? ad = some v) (hf : w.frozen? ad = false)
    (h : ∀ W', W' = w.setCell ad (.int .i64 n) → wpList P ops Q rest (a.put o.dst undef) W') : wpList P ops Q (o :: rest) a w := wpList_plain hgd fun K hK => by
  have hr : (execOp a.eval o).run P w = .ok .skip (w.setCell ad (.int .i64 n)) := by
    cases hq : P.info? ty with
    | none => simp [hq] at hi
    | some i =>
      have hs : i.size = 1 := by simpa [hq] using hi
      unfold execOp
      simp only [ho, hx, hy]
      simp [Instr.storeAt, Instr.sureAddr, storeVar, sizeOf, typeInfo, hq, hs, Value.cells, go_sem, hc, hf]
  unfold Oper.wp
  rw [hr]
  exact hK _ _ (h _ rfl)
theorem wpList_putb {P : Program} {ops : Array Oper} {rest : List Oper} {o : Oper} {a : Act} {w : World} {Q : Exit → Act → World → Prop} (hgd : o.guard = none) (ty : TypeId) (x y : Operand) (ho : o.op = .store ty x y) (ad : Addr) (hx : a.eval x = .pointer (some ad)) (b : Bool) (hy : a.eval y = (.bool b)) (hi : (P.info? ty).map (·.size) = some 1) (v : Value) (hc : w.cell? ad = some v) (hf : w.frozen? ad = false)
    (h : ∀ W', W' = w.setCell ad (.bool b) → wpList P ops Q rest (a.put o.dst undef) W') : wpList P ops Q (o :: rest) a w := wpList_plain hgd fun K hK => by
  have hr : (execOp a.eval o).run P w = .ok .skip (w.setCell ad (.bool b)) := by
    cases hq : P.info? ty with
    | none => simp [hq] at hi
    | some i =>
      have hs : i.size = 1 := by simpa [hq] using hi
      unfold execOp
      simp only [ho, hx, hy]
      simp [Instr.storeAt, Instr.sureAddr, storeVar, sizeOf, typeInfo, hq, hs, Value.cells, go_sem, hc, hf]
  unfold Oper.wp
  rw [hr]
  exact hK _ _ (h _ rfl)
theorem wpList_puts {P : Program} {ops : Array Oper} {rest : List Oper} {o : Oper} {a : Act} {w : World} {Q : Exit → Act → World → Prop} (hgd : o.guard = none) (ty : TypeId) (x y : Operand) (ho : o.op = .store ty x y) (ad : Addr) (hx : a.eval x = .pointer (some ad)) (g : Option Addr) (n cap : Nat) (hy : a.eval y = (.slice g n cap)) (hi : (P.info? ty).map (·.size) = some 1) (v : Value) (hc : w.cell? ad = some v) (hf : w.frozen? ad = false)
    (h : ∀ W', W' = w.setCell ad (.slice g n cap) → wpList P ops Q rest (a.put o.dst undef) W') : wpList P ops Q (o :: rest) a w := wpList_plain hgd fun K hK => by
  have hr : (execOp a.eval o).run P w = .ok .skip (w.setCell ad (.slice g n cap)) := by
    cases hq : P.info? ty with
    | none => simp [hq] at hi
    | some i =>
      have hs : i.size = 1 := by simpa [hq] using hi
      unfold execOp
      simp only [ho, hx, hy]
      simp [Instr.storeAt, Instr.sureAddr, storeVar, sizeOf, typeInfo, hq, hs, Value.cells, go_sem, hc, hf]
  unfold Oper.wp
  rw [hr]
  exact hK _ _ (h _ rfl)
end Go.Proofs.YtgmpdnmheiblpaaDoor.pg
/- A state's parts, loaded whole and by their places; which goroutines are live. -/
namespace Go.Proofs.YtgmpdnmheiblpaaDoor.pg
open Go.ChangeShapes Go.WideShapes Go.ChangeAt Go.RowKit
set_option linter.unusedVariables false
set_option linter.unusedSimpArgs false
set_option maxRecDepth 100000
attribute [local go_sem ↓] Go.wp_at_zero Go.wp_at_succ
theorem infoIT : (Tryd.prog.info? 3).map (fun i => (i.zero, i.size, i.bytes)) = some (some (.int .i64 0), 1, 8) := by kernel_rfl
theorem range_of {w : World} {B off : Nat} {cs a m c : List Value} {t : TypeId} (h : w.heap[B]? = some (.cells cs.toArray t (0, 0))) (e : cs = a ++ (m ++ c)) (ho : a.length = off) : w.rangeAt B off m := fun j v hj => by
  refine cell_ofG h ?_
  have hlt := (List.getElem?_eq_some_iff.mp hj).1
  rw [List.getElem?_toArray, e, List.getElem?_append_right (by omega), ho, Nat.add_sub_cancel_left, List.getElem?_append_left hlt]
  exact hj
theorem InS.rvars {w : World} {B : Nat} {s : Sts} (h : InS w B s) (hw : s.wf) : w.rangeAt B 0 (ints s.vars) := range_of h (a := []) (c := ints s.own ++ ((s.ch.map Chc.cells).flatten ++ ((s.gos.map Gr.cells).flatten ++ [.int .i64 s.cnt]))) rfl rfl
theorem InS.rown {w : World} {B : Nat} {s : Sts} (h : InS w B s) (hw : s.wf) : w.rangeAt B 8 (ints s.own) := range_of h (a := ints s.vars) (c := (s.ch.map Chc.cells).flatten ++ ((s.gos.map Gr.cells).flatten ++ [.int .i64 s.cnt])) rfl (by simp [hw.lv])
theorem InS.rchs {w : World} {B : Nat} {s : Sts} (h : InS w B s) (hw : s.wf) : w.rangeAt B 12 (s.ch.map Chc.cells).flatten := range_of h (a := ints s.vars ++ ints s.own) (c := (s.gos.map Gr.cells).flatten ++ [.int .i64 s.cnt]) (by rw [List.append_assoc]; rfl) (by simp [hw.lv, hw.lo])
theorem InS.rgos {w : World} {B : Nat} {s : Sts} (h : InS w B s) (hw : s.wf) : w.rangeAt B 48 (s.gos.map Gr.cells).flatten := range_of h (a := ints s.vars ++ (ints s.own ++ (s.ch.map Chc.cells).flatten)) (c := [.int .i64 s.cnt]) (by simp only [List.append_assoc]; rfl) (by simp only [List.length_append, List.length_map, hw.lv, hw.lo, flat_len Chc.cells 9 _ fun c hc => Chc.len (hw.ac c hc), hw.lc])
theorem chs_len {s : Sts} (hw : s.wf) : (s.ch.map Chc.cells).flatten.length = 36 := by rw [flat_len Chc.cells 9 _ fun c hc => Chc.len (hw.ac c hc), hw.lc]
theorem gos_len {s : Sts} (hw : s.wf) : (s.gos.map Gr.cells).flatten.length = 72 := by rw [flat_len Gr.cells 12 _ fun g hg => Gr.len (hw.ag g hg), hw.lg]
theorem rows_take {C : List (List Value)} {k : Nat} (hk : ∀ r ∈ C, r.length = k) {i : Nat} {row : List Value} (hi : C[i]? = some row) : List.take k (List.drop (i * k) C.flatten) = row := by
  have hrow := hk row (List.mem_of_getElem? hi)
  apply List.ext_getElem?
  intro j
  by_cases hj : j < k
  · rw [List.getElem?_take, if_pos hj, List.getElem?_drop]
    exact flatten_at C hk i row hi j hj
  · rw [List.getElem?_take, if_neg hj, List.getElem?_eq_none (by omega)]
theorem ix_rows {t e : TypeId} {n k : Nat} (hu : Tryd.prog.underlying t = some (.array n e)) (hz : ∀ wx, (sizeOf e).run Tryd.prog wx = .ok k wx) {fs : Array Field} (he : Tryd.prog.underlying e = some (.struct fs)) {C : List (List Value)} (hk : ∀ r ∈ C, r.length = k) (hl : C.length = n) {i : Nat} {row : List Value} (hi : C[i]? = some row) :
    ∀ wx, (Instr.index t (.agg C.flatten.toArray) (.int .i64 (i : Int))).run Tryd.prog wx = .ok (.agg row.toArray) wx := by
  intro wx
  have hin := (List.getElem?_eq_some_iff.mp hi).1
  have q1 : (i : Int) < n := by omega
  have q2 : (0 : Int) ≤ (i : Int) := by omega
  have q3 : ¬ (i : Int) < 0 := by omega
  have hx := rows_take hk hi
  simp [Instr.index, run_underlying hu, asIntOf, go_sem, hz, q1, q2, q3, part, isAgg, run_underlying he]
  rw [if_pos (by omega), hx]
theorem ix_ints {t e : TypeId} {n : Nat} (hu : Tryd.prog.underlying t = some (.array n e)) (hz : ∀ wx, (sizeOf e).run Tryd.prog wx = .ok 1 wx) (he : Tryd.prog.underlying e = some (.int .i64)) {l : List Int} (hl : l.length = n) {i : Nat} {x : Int} (hi : l[i]? = some x) :
    ∀ wx, (Instr.index t (.agg (ints l).toArray) (.int .i64 (i : Int))).run Tryd.prog wx = .ok (.int .i64 x) wx := by
  intro wx
  have hin := (List.getElem?_eq_some_iff.mp hi).1
  have q1 : (i : Int) < n := by omega
  have q2 : (0 : Int) ≤ (i : Int) := by omega
  have q3 : ¬ (i : Int) < 0 := by omega
  simp [Instr.index, run_underlying hu, asIntOf, go_sem, hz, q1, q2, q3, part, isAgg, run_underlying he, hi]
  intro q
  omega
theorem add_str (A B : ByteArray) (h : A.size + B.size ≤ 1000000) : ∀ wx, (binOp .add 9 (.string A) (.string B)).run Tryd.prog wx = .ok (.string (A ++ B)) wx := by
  intro wx
  have u := Tryd.underlying9
  simp [binOp, run_underlying u, go_sem]
  omega
theorem cut_str (A : ByteArray) (h : 1 ≤ A.size) : ∀ wx, (Instr.slice 9 (.string A) (some (.int .i64 1)) none none).run Tryd.prog wx = .ok (.string ⟨(A.data.toList.drop 1).toArray⟩) wx := by
  intro wx
  have u := Tryd.underlying9
  simp [Instr.slice, run_underlying u, go_sem]
  rw [if_pos (by omega)]
  congr 2
  cases A with
  | mk d =>
    simp only [ByteArray.extract, ByteArray.copySlice, ByteArray.mk.injEq]
    apply Array.ext'
    simp [ByteArray.size]
    rw [List.take_of_length_le]
    simp
end Go.Proofs.YtgmpdnmheiblpaaDoor.pg
/- Which goroutines are live, on both sides. -/
namespace Go.Proofs.YtgmpdnmheiblpaaDoor.pg
open Go.ChangeShapes Go.WideShapes Go.ChangeAt Go.RowKit
set_option linter.unusedVariables false
set_option linter.unusedSimpArgs false
set_option maxRecDepth 100000
attribute [local go_sem ↓] Go.wp_at_zero Go.wp_at_succ
section
variable {P : Program} {ops : Array Oper} {Q : Exit → Act → World → Prop} {rest : List Oper} {op : Oper} {a : Act} {w : World}
def StopQ (p : Prop) : Prop := p
theorem stopQ_out {p : Prop} (h : p) : StopQ p := h
theorem at_storeQ (ty : TypeId) (x y : Operand) (ho : op.op = .store ty x y) (h : StopQ (wpList P ops Q (op :: rest) a w)) : wpList P ops Q (op :: rest) a w := h
theorem at_loadQ (ty : TypeId) (x : Operand) (ho : op.op = .load ty x) (h : StopQ (wpList P ops Q (op :: rest) a w)) : wpList P ops Q (op :: rest) a w := h
theorem at_allocQ (ty : TypeId) (ho : op.op = .alloc ty) (h : StopQ (wpList P ops Q (op :: rest) a w)) : wpList P ops Q (op :: rest) a w := h
end
/-- The live goroutines among the first. -/
def lvL (gs : List Gr) : Nat → List Int
  | 0 => []
  | n + 1 => lvL gs n ++ (match gs[n]? with | some g => if g.st = 1 ∨ g.st = 2 then [(n : Int)] else [] | none => [])
theorem lvL_len (gs : List Gr) : ∀ n, (lvL gs n).length ≤ n
  | 0 => Nat.le_refl _
  | n + 1 => by
    have := lvL_len gs n
    rw [lvL, List.length_append]
    split
    · split <;> simp <;> omega
    · simp; omega
theorem lvL_yes {gs : List Gr} {n : Nat} {g : Gr} (h : gs[n]? = some g) (hs : g.st = 1 ∨ g.st = 2) : lvL gs (n + 1) = lvL gs n ++ [(n : Int)] := by
  rw [lvL, h]
  simp only [if_pos hs]
theorem lvL_no {gs : List Gr} {n : Nat} {g : Gr} (h : gs[n]? = some g) (hs : ¬ (g.st = 1 ∨ g.st = 2)) : lvL gs (n + 1) = lvL gs n := by
  rw [lvL, h]
  simp only [if_neg hs, List.append_nil]
theorem one1t (x : Int) : ∀ u ∈ chCells x, u.oneCell' = true := by intro u hu; simp [chCells] at hu; subst hu; rfl
theorem len1t (l : List Int) : ∀ row ∈ l.map chCells, row.length = 1 := by intro r hr; simp only [List.mem_map] at hr; obtain ⟨x, _, rfl⟩ := hr; rfl
theorem ix_gos (B j : Nat) (h : j < 6) : ∀ wx, (Instr.indexAt 36 (.pointer (some ⟨B, 48, none⟩)) (.int .i64 (j : Int))).run Tryd.prog wx = .ok (.pointer (some ⟨B, 48 + j * 12, none⟩)) wx := by
  match j, h with
  | 0, _ => exact fun _ => by kernel_rfl
  | 1, _ => exact fun _ => by kernel_rfl
  | 2, _ => exact fun _ => by kernel_rfl
  | 3, _ => exact fun _ => by kernel_rfl
  | 4, _ => exact fun _ => by kernel_rfl
  | 5, _ => exact fun _ => by kernel_rfl
structure LvS (w W : World) (s : Sts) (L : List Int) (va : Option Addr) (vc : Nat) : Prop where
  b : Below w.heap.size w W
  i : InS W w.heap.size s
  o : OwnL W (w.heap.size + 1) 3 1 va vc (L.map chCells)
theorem LvS.later {w W W' : World} {s : Sts} {L : List Int} {va : Option Addr} {vc : Nat} (h : LvS w W s L va vc) (hb : Below W.heap.size W W') : LvS w W' s L va vc := ⟨bthen h.b hb, h.i.later hb, own_keep h.o (fun b q => hb.block b (blk_lt h.o b q).2)⟩
theorem LvS.grown {w W W' : World} {s : Sts} {L : List Int} {x : Int} {va va' : Option Addr} {vc vc' : Nat} (h : LvS w W s L va vc) (hg : Grown W (w.heap.size + 1) 3 1 va (L.map chCells) (chCells x) va' vc' W') : LvS w W' s (L ++ [x]) va' vc' := by
  have hs := h.i.lt
  have hb : Below (w.heap.size + 1) W W' := hg.be.mono (by omega)
  exact ⟨h.b.trans (hb.mono (by omega)), (hb.block _ (by omega)).trans h.i, by rw [List.map_append]; exact hg.ow⟩
set_option maxHeartbeats 4000000 in
theorem slive_any (s : Sts) (hs : s.wf) (w : World) : Calls Tryd.prog 11 #[s.val] w fun e w' => ∃ va vc, e = .returned (.slice va (lvL s.gos 6).length vc) ∧ Rows w' 1 va vc ((lvL s.gos 6).map chCells) ∧ Below w.heap.size w w' := by
  obtain ⟨iN, hiN', hzN', hsN', hbN'⟩ := info_q infoIT
  have hiN : Hid (Tryd.prog.info? 3 = some iN) := hiN'
  have hzN : Hid _ := hzN'
  have hsN : Hid _ := hsN'
  have hbN : Hid _ := hbN'
  clear hiN' hzN' hsN' hbN'
  have hw : Hid s.wf := hs
  have s0 : Hid (LvS w (w.alloc (objSt s)) s (lvL s.gos 0) none 0) := ⟨boxed _ _, inS_new _ _, own_nil_q _ _ _ _⟩
  obtain ⟨Z, hzG, hZ12, _⟩ := zero_big (P := Tryd.prog) (t := 35) (n := 12) (by kernel_rfl)
  have huA : Hid (Tryd.prog.underlying 36 = _) := Tryd.underlying36
  obtain ⟨GA, hGA⟩ : ∃ GA, Hid ((s.gos.map Gr.cells).flatten = GA) := ⟨_, rfl⟩
  have hgl : GA.length = 72 := by rw [← hGA.out]; exact gos_len hs
  have hrg : Hid ((w.alloc (objSt s)).rangeAt w.heap.size 48 GA) := by (show World.rangeAt _ _ _ _; rw [← hGA.out]; exact s0.out.i.rgos hs)
  have hiA : Hid ((Tryd.prog.info? 36).map (·.size) = some GA.length) := by (show _ = _; rw [hgl]; kernel_rfl)
  have xA : Hid (∀ (k : Nat) (g : Gr), s.gos[k]? = some g → ∀ wx, (Instr.index 36 (.agg GA.toArray) (.int .i64 (k : Int))).run Tryd.prog wx = .ok (.agg g.cells.toArray) wx) := fun k g hk => by
    rw [← hGA.out]
    exact ix_rows Tryd.underlying36 (fun wx => Tryd.sizeOf35 wx) Tryd.underlying35 (fun r hr => by obtain ⟨x, hx, rfl⟩ := List.mem_map.mp hr; exact Gr.len (hw.out.ag x hx)) (by rw [List.length_map]; exact hw.out.lg) (by rw [List.getElem?_map, hk]; rfl)
  clear hs
  go_enter Tryd.func11, Tryd.ntmps11
  go_upto_region 2 with fail
  change Code.wp _ _ _ _ (w.alloc (objSt s))
  generalize w.alloc (objSt s) = V at *
  go_wp2_with (first
    | ((with_reducible refine at_loadQ 36 _ rfl ?_); refine stopQ_out ?_; refine wpList_load_mid rfl 36 _ rfl w.heap.size 48 rfl GA _ hrg.out huA.out rfl hiA.out ?_))
  clear hrg
  go_loopw [3, 8] (fun o u wr => ∃ (k : Nat) (va : Option Addr) (vc : Nat), k ≤ 6 ∧ u = .int .i64 (k : Int) ∧ o = .slice va (lvL s.gos k).length vc ∧ Hid (LvS w wr s (lvL s.gos k) va vc)) (fun _ u _ => 6 - (intOf u).toNat)
  case atStart => exact ⟨0, none, 0, by omega, rfl, rfl, s0⟩
  case round =>
    clear s0
    obtain ⟨k, va, vc, hk, rfl, rfl, hs⟩ := hrel
    by_cases hlt : k < 6
    · have hkI : (k : Int) < 6 := by omega
      obtain ⟨g, hg, hgm⟩ := get_lt s.gos k (by rw [hw.out.lg]; exact hlt)
      have hgw : Hid g.wf := hw.out.ag g hgm
      have hyes : Hid (g.st = 1 ∨ g.st = 2 → lvL s.gos (k + 1) = lvL s.gos k ++ [(k : Int)]) := fun h => lvL_yes hg h
      have hno : Hid (¬ (g.st = 1 ∨ g.st = 2) → lvL s.gos (k + 1) = lvL s.gos k) := fun h => lvL_no hg h
      have hll := lvL_len s.gos k
      have xk := xA.out k g hg
      have hzi : (wr.alloc (.cells Z 35)).heap[wr.heap.size]? = some (.cells Z 35) := heap_alloc_new wr _
      have hV : Hid (LvS w ((wr.alloc (.cells Z 35)).setRow wr.heap.size g.cells.toArray) s (lvL s.gos k) va vc) := hs.out.later ((boxed _ _).trans ⟨rfl, rfl, rfl, by rw [setRow_size]; exact Nat.le_refl _, fun q hq => setRow_other _ _ q _ (by omega)⟩)
      have j0 : ((wr.alloc (.cells Z 35)).setRow wr.heap.size g.cells.toArray).cell? ⟨wr.heap.size, 0, none⟩ = some (.int .i64 g.st) := cell_ofG (setRow_heap _ _ _ _ _ _ hzi) rfl
      have hi12 : Hid ((Tryd.prog.info? 35).map (·.size) = some g.cells.toArray.size) := infoG hgw.out.2.2.2.2.1
      have hZs : Hid (Z.size = g.cells.toArray.size) := by (show _ = _; rw [hZ12, sizeG hgw.out.2.2.2.2.1])
      clear hs hg hgm
      generalize lvL s.gos k = L at *
      go_upto_region 5 with (first
        | ((with_reducible refine at_allocQ 35 rfl ?_); refine stopQ_out ?_; refine wpList_alloc_big rfl 35 rfl hzG ?_)
        | ((with_reducible refine at_storeQ 35 _ _ rfl ?_); refine stopQ_out ?_; refine wpList_store_row rfl 35 _ _ rfl wr.heap.size g.cells.toArray rfl rfl _ _ hzi hi12.out hZs.out (oneG g) ?_))
      clear xk hzi
      generalize (wr.alloc (.cells Z 35)).setRow wr.heap.size g.cells.toArray = Y at *
      generalize wr.heap.size = YB at *
      by_cases c1 : g.st = 1
      · have d1 : (g.st == 1) = true := by rw [c1]; rfl
        have hN : Hid (lvL s.gos (k + 1) = L ++ [(k : Int)]) := hyes.out (.inl c1)
        clear hyes hno c1
        go_wp2_with (at_builtin; (refine wpList_app1 rfl (.tmp 20) (.tmp 22) 40 rfl (w.heap.size + 1) 3 iN _ 1 8 Tryd.underlying40 hiN.out hzN.out hsN.out hbN.out rfl (by decide) va vc (L.map chCells) (by rw [List.length_map]; rfl) hV.out.o (chCells (k : Int)) rfl rfl (one1t _) (by rw [List.length_map]; unfold maxLen; omega) (by rw [List.length_map]; omega) (by have := hV.out.i.lt; omega) ?_); intro va' vc' w2 hg; rw [List.length_map]; (have hg2 : Hid (LvS w w2 s (L ++ [(k : Int)]) va' vc') := hV.out.grown hg); clear hg)
        go_roundw
        case rel => exact ⟨k + 1, va', vc', by omega, by go_num, by rw [hN.out, List.length_append]; rfl, by rw [hN.out]; exact hg2⟩
        case measure => simp [intOf]; omega
      have d1 : (g.st == 1) = false := by simpa using c1
      by_cases c2 : g.st = 2
      · have d2 : (g.st == 2) = true := by rw [c2]; rfl
        have hN : Hid (lvL s.gos (k + 1) = L ++ [(k : Int)]) := hyes.out (.inr c2)
        clear hyes hno c1 c2
        go_wp2_with (at_builtin; (refine wpList_app1 rfl (.tmp 20) (.tmp 22) 40 rfl (w.heap.size + 1) 3 iN _ 1 8 Tryd.underlying40 hiN.out hzN.out hsN.out hbN.out rfl (by decide) va vc (L.map chCells) (by rw [List.length_map]; rfl) hV.out.o (chCells (k : Int)) rfl rfl (one1t _) (by rw [List.length_map]; unfold maxLen; omega) (by rw [List.length_map]; omega) (by have := hV.out.i.lt; omega) ?_); intro va' vc' w2 hg; rw [List.length_map]; (have hg2 : Hid (LvS w w2 s (L ++ [(k : Int)]) va' vc') := hV.out.grown hg); clear hg)
        go_roundw
        case rel => exact ⟨k + 1, va', vc', by omega, by go_num, by rw [hN.out, List.length_append]; rfl, by rw [hN.out]; exact hg2⟩
        case measure => simp [intOf]; omega
      have d2 : (g.st == 2) = false := by simpa using c2
      have hN : Hid (lvL s.gos (k + 1) = L) := hno.out (fun q => q.elim c1 c2)
      clear hyes hno c1 c2
      go_wp2_with fail
      go_roundw
      case rel => exact ⟨k + 1, va, vc, by omega, by go_num, by rw [hN.out], by rw [hN.out]; exact hV⟩
      case measure => simp [intOf]; omega
    · have hke : k = 6 := by omega
      subst hke
      go_wp2_with fail
      go_ret
      exact ⟨va, vc, rfl, own_rows hs.out.o (len1t _), hs.out.b⟩
set_option maxHeartbeats 4000000 in
theorem rlive_any (s : Sts) (hs : s.wf) (w : World) : Calls Tryd.prog 12 #[s.val] w fun e w' => ∃ va vc, e = .returned (.slice va (lvL s.gos 6).length vc) ∧ Rows w' 1 va vc ((lvL s.gos 6).map chCells) ∧ Below w.heap.size w w' := by
  obtain ⟨iN, hiN', hzN', hsN', hbN'⟩ := info_q infoIT
  have hiN : Hid (Tryd.prog.info? 3 = some iN) := hiN'
  have hzN : Hid _ := hzN'
  have hsN : Hid _ := hsN'
  have hbN : Hid _ := hbN'
  clear hiN' hzN' hsN' hbN'
  have hw : Hid s.wf := hs
  have s0 : Hid (LvS w (w.alloc (objSt s)) s (lvL s.gos 0) none 0) := ⟨boxed _ _, inS_new _ _, own_nil_q _ _ _ _⟩
  clear hs
  go_enter Tryd.func12, Tryd.ntmps12
  go_upto_region 2 with fail
  change Code.wp _ _ _ _ (w.alloc (objSt s))
  generalize w.alloc (objSt s) = V at *
  go_wp2_with fail
  go_loopw [3, 5] (fun o u wr => ∃ (k : Nat) (va : Option Addr) (vc : Nat), k ≤ 6 ∧ u = .int .i64 (k : Int) ∧ o = .slice va (lvL s.gos k).length vc ∧ Hid (LvS w wr s (lvL s.gos k) va vc)) (fun _ u _ => 6 - (intOf u).toNat)
  case atStart => exact ⟨0, none, 0, by omega, rfl, rfl, s0⟩
  case round =>
    clear s0
    obtain ⟨k, va, vc, hk, rfl, rfl, hs⟩ := hrel
    by_cases hlt : k < 6
    · have hkI : (k : Int) < 6 := by omega
      obtain ⟨g, hg, hgm⟩ := get_lt s.gos k (by rw [hw.out.lg]; exact hlt)
      have hgw : Hid g.wf := hw.out.ag g hgm
      have hyes : Hid (g.st = 1 ∨ g.st = 2 → lvL s.gos (k + 1) = lvL s.gos k ++ [(k : Int)]) := fun h => lvL_yes hg h
      have hno : Hid (¬ (g.st = 1 ∨ g.st = 2) → lvL s.gos (k + 1) = lvL s.gos k) := fun h => lvL_no hg h
      have hll := lvL_len s.gos k
      obtain ⟨gb, go, xg, hgb, j0⟩ : ∃ gb go, (∀ wx, (Instr.indexAt 36 (.pointer (some ⟨w.heap.size, 48, none⟩)) (.int .i64 (k : Int))).run Tryd.prog wx = .ok (.pointer (some ⟨gb, go, none⟩)) wx) ∧ gb < wr.heap.size ∧ wr.cell? ⟨gb, go, none⟩ = some (.int .i64 g.st) := by
        refine ⟨w.heap.size, 48 + k * 12, fun wx => ?_, hs.out.i.lt, hs.out.i.rgos hw.out (k * 12) (.int .i64 g.st) ?_⟩
        · exact ix_gos _ k hlt wx
        · have := flatten_at (s.gos.map Gr.cells) (k := 12) (fun r hr => by obtain ⟨x, hx, rfl⟩ := List.mem_map.mp hr; exact Gr.len (hw.out.ag x hx)) k g.cells (by rw [List.getElem?_map, hg]; rfl) 0 (by omega)
          rw [Nat.add_zero] at this
          rw [this]
          rfl
      have hV : Hid (LvS w wr s (lvL s.gos k) va vc) := hs
      clear hs hg hgm
      generalize lvL s.gos k = L at *
      by_cases c1 : g.st = 1
      · have d1 : (g.st == 1) = true := by rw [c1]; rfl
        have hN : Hid (lvL s.gos (k + 1) = L ++ [(k : Int)]) := hyes.out (.inl c1)
        clear hyes hno c1
        go_wp2_with (at_builtin; (refine wpList_app1 rfl (.tmp 22) (.tmp 24) 40 rfl (w.heap.size + 1) 3 iN _ 1 8 Tryd.underlying40 hiN.out hzN.out hsN.out hbN.out rfl (by decide) va vc (L.map chCells) (by rw [List.length_map]; rfl) hV.out.o (chCells (k : Int)) rfl rfl (one1t _) (by rw [List.length_map]; unfold maxLen; omega) (by rw [List.length_map]; omega) (by have := hV.out.i.lt; omega) ?_); intro va' vc' w2 hg; rw [List.length_map]; (have hg2 : Hid (LvS w w2 s (L ++ [(k : Int)]) va' vc') := hV.out.grown hg); clear hg)
        go_roundw
        case rel => exact ⟨k + 1, va', vc', by omega, by go_num, by rw [hN.out, List.length_append]; rfl, by rw [hN.out]; exact hg2⟩
        case measure => simp [intOf]; omega
      have d1 : (g.st == 1) = false := by simpa using c1
      by_cases c2 : g.st = 2
      · have d2 : (g.st == 2) = true := by rw [c2]; rfl
        have hN : Hid (lvL s.gos (k + 1) = L ++ [(k : Int)]) := hyes.out (.inr c2)
        clear hyes hno c1 c2
        go_wp2_with (at_builtin; (refine wpList_app1 rfl (.tmp 22) (.tmp 24) 40 rfl (w.heap.size + 1) 3 iN _ 1 8 Tryd.underlying40 hiN.out hzN.out hsN.out hbN.out rfl (by decide) va vc (L.map chCells) (by rw [List.length_map]; rfl) hV.out.o (chCells (k : Int)) rfl rfl (one1t _) (by rw [List.length_map]; unfold maxLen; omega) (by rw [List.length_map]; omega) (by have := hV.out.i.lt; omega) ?_); intro va' vc' w2 hg; rw [List.length_map]; (have hg2 : Hid (LvS w w2 s (L ++ [(k : Int)]) va' vc') := hV.out.grown hg); clear hg)
        go_roundw
        case rel => exact ⟨k + 1, va', vc', by omega, by go_num, by rw [hN.out, List.length_append]; rfl, by rw [hN.out]; exact hg2⟩
        case measure => simp [intOf]; omega
      have d2 : (g.st == 2) = false := by simpa using c2
      have hN : Hid (lvL s.gos (k + 1) = L) := hno.out (fun q => q.elim c1 c2)
      clear hyes hno c1 c2
      go_wp2_with fail
      go_roundw
      case rel => exact ⟨k + 1, va, vc, by omega, by go_num, by rw [hN.out], by rw [hN.out]; exact hV⟩
      case measure => simp [intOf]; omega
    · have hke : k = 6 := by omega
      subst hke
      go_wp2_with fail
      go_ret
      exact ⟨va, vc, rfl, own_rows hs.out.o (len1t _), hs.out.b⟩
end Go.Proofs.YtgmpdnmheiblpaaDoor.pg
