/- A state's numbers, gathered by package state. -/
import Derived.Test.YtgmpdnmheiblpaaDoorM10
namespace Go.Proofs.YtgmpdnmheiblpaaDoor.pg
open Go.ChangeShapes Go.WideShapes Go.ChangeAt Go.RowKit
set_option linter.unusedVariables false
set_option linter.unusedSimpArgs false
set_option maxRecDepth 100000
attribute [local go_sem ↓] Go.wp_at_zero Go.wp_at_succ
theorem infoT64 : (Tryd.prog.info? 2).map (fun i => (i.zero, i.size, i.bytes)) = some (some (.int .i64 0), 1, 8) := by kernel_rfl
theorem take_oneT {α : Type} {l : List α} {k : Nat} {x : α} (h : l[k]? = some x) : l.take (k + 1) = l.take k ++ [x] := by rw [List.take_add_one, h]; rfl
theorem oneNt (l : List Int) : ∀ row ∈ l.map chCells, ∀ u ∈ row, u.oneCell' = true := fun r hr u hu => by
  obtain ⟨x, _, rfl⟩ := List.mem_map.mp hr
  exact one1t x u hu
/-- Numbers in a block of their own. -/
theorem rows_ints {w : World} {B off : Nat} {l : List Int} {t : TypeId} {cs : List Value} (a c : List Value) (h : w.heap[B]? = some (.cells cs.toArray t (0, 0))) (e : cs = a ++ (ints l ++ c)) (ho : a.length = off) (hm : l.length ≤ 1000) : Rows w 1 (some ⟨B, off, none⟩) l.length (l.map chCells) :=
  rows_of h (l.map chCells) (len1t l) (by rw [List.length_map]; omega) (by omega) a c (by rw [← ints_flat]; exact e) ho
structure NuS (w W : World) (s : Sts) (L : List Int) (va : Option Addr) (vc : Nat) : Prop where
  b : Below w.heap.size w W
  i : InS W w.heap.size s
  o : OwnL W (w.heap.size + 1) 2 1 va vc (L.map chCells)
theorem NuS.later {w W W' : World} {s : Sts} {L : List Int} {va : Option Addr} {vc : Nat} (h : NuS w W s L va vc) (hb : Below W.heap.size W W') : NuS w W' s L va vc := ⟨bthen h.b hb, h.i.later hb, own_keep h.o (fun b q => hb.block b (blk_lt h.o b q).2)⟩
theorem NuS.grown {w W W' : World} {s : Sts} {L : List Int} {x : Int} {va va' : Option Addr} {vc vc' : Nat} (h : NuS w W s L va vc) (hg : Grown W (w.heap.size + 1) 2 1 va (L.map chCells) (chCells x) va' vc' W') : NuS w W' s (L ++ [x]) va' vc' := by
  have hs := h.i.lt
  have hb : Below (w.heap.size + 1) W W' := hg.be.mono (by omega)
  exact ⟨h.b.trans (hb.mono (by omega)), (hb.block _ (by omega)).trans h.i, by rw [List.map_append]; exact hg.ow⟩
theorem NuS.app {w W W' : World} {s : Sts} {L N : List Int} {va va' : Option Addr} {vc vc' : Nat} (h : NuS w W s L va vc) (ho : OwnL W' (w.heap.size + 1) 2 1 va' vc' (L.map chCells ++ N.map chCells)) (hb0 : Below (min (w.heap.size + 1) W.heap.size) W W') : NuS w W' s (L ++ N) va' vc' := by
  have hs := h.i.lt
  have hb : Below (w.heap.size + 1) W W' := hb0.mono (by omega)
  exact ⟨h.b.trans (hb.mono (by omega)), (hb.block _ (by omega)).trans h.i, by rw [List.map_append]; exact ho⟩
/-- And a box beside. -/
structure NuC (w W : World) (s : Sts) (L : List Int) (va : Option Addr) (vc : Nat) (CB : Nat) (o : Obj) : Prop where
  n : NuS w W s L va vc
  c : W.heap[CB]? = some o
  ne : CB ∉ blk va
theorem NuC.lt {w W : World} {s : Sts} {L : List Int} {va : Option Addr} {vc CB : Nat} {o : Obj} (h : NuC w W s L va vc CB o) : CB < W.heap.size := (Array.getElem?_eq_some_iff.mp h.c).1
theorem NuC.later {w W W' : World} {s : Sts} {L : List Int} {va : Option Addr} {vc CB : Nat} {o : Obj} (h : NuC w W s L va vc CB o) (hb : Below W.heap.size W W') : NuC w W' s L va vc CB o := ⟨h.n.later hb, (hb.block _ h.lt).trans h.c, h.ne⟩
theorem NuC.app {w W W' : World} {s : Sts} {L N : List Int} {va va' : Option Addr} {vc vc' CB : Nat} {o : Obj} (h : NuC w W s L va vc CB o) (ho : OwnL W' (w.heap.size + 1) 2 1 va' vc' (L.map chCells ++ N.map chCells)) (hk : ∀ b, b < W.heap.size → b ∉ blk va → W'.heap[b]? = W.heap[b]?) (hb0 : Below (min (w.heap.size + 1) W.heap.size) W W') (hbl : blk va' = blk va ∨ blk va' = [W.heap.size]) : NuC w W' s (L ++ N) va' vc' CB o := by
  have hl := h.lt
  refine ⟨h.n.app ho hb0, (hk CB hl h.ne).trans h.c, fun q => ?_⟩
  rcases hbl with e | e
  · rw [e] at q; exact h.ne q
  · rw [e, List.mem_singleton] at q; omega
theorem chc_at {c : Chc} (h : c.wf) : c.cells.toArray[4]? = some (.int .i64 c.ln) ∧ c.cells.toArray[5]? = some (.bool c.shut) ∧ c.cells.toArray[6]? = some (.int .i64 c.off) ∧ c.cells.toArray[7]? = some (.int .i64 c.frm) ∧ c.cells.toArray[8]? = some (.int .i64 c.val) := by
  have hl : (ints c.buf).length = 4 := by rw [List.length_map]; exact h.2.2.2.2.1
  refine ⟨?_, ?_, ?_, ?_, ?_⟩ <;> (rw [List.getElem?_toArray, Chc.cells, List.getElem?_append_right (by omega), hl]; rfl)
theorem yes_any (b : Bool) (w : World) : Calls Tryd.prog 30 #[.bool b] w fun e w' => e = .returned (.int .i64 (b01 b)) ∧ w' = w := by
  cases b with
  | false =>
    go_enter Tryd.func30, Tryd.ntmps30
    go_wp2
    go_ret
    exact ⟨rfl, rfl⟩
  | true =>
    go_enter Tryd.func30, Tryd.ntmps30
    go_wp2
    go_ret
    exact ⟨rfl, rfl⟩
theorem fl_len {s : Sts} (h : s.wf) (k : Nat) (hk : k ≤ 4) : (s.vars ++ s.own ++ ((s.ch.take k).map Chc.nums).flatten).length = 12 + k * 9 := by
  rw [List.length_append, List.length_append, h.lv, h.lo, flat_lenI Chc.nums 9 _ fun c hc => Chc.nums_len (h.ac c (List.mem_of_mem_take hc)), List.length_take, h.lc, Nat.min_eq_left hk]
theorem fg_len {s : Sts} (h : s.wf) (k : Nat) (hk : k ≤ 6) : (s.vars ++ s.own ++ (s.ch.map Chc.nums).flatten ++ ((s.gos.take k).map Gr.nums).flatten).length = 48 + k * 12 := by
  have e := fl_len h 4 (by omega)
  rw [List.take_of_length_le (by rw [h.lc]; omega)] at e
  rw [List.length_append, e, flat_lenI Gr.nums 12 _ fun c hc => Gr.nums_len (h.ag c (List.mem_of_mem_take hc)), List.length_take, h.lg, Nat.min_eq_left hk]
theorem fl_more {s : Sts} {k : Nat} {c : Chc} (h : s.ch[k]? = some c) : s.vars ++ s.own ++ ((s.ch.take (k + 1)).map Chc.nums).flatten = s.vars ++ s.own ++ ((s.ch.take k).map Chc.nums).flatten ++ c.buf ++ c.five := by
  rw [take_oneT h]
  simp [Chc.nums]
theorem fg_more {s : Sts} {k : Nat} {g : Gr} (h : s.gos[k]? = some g) : s.vars ++ s.own ++ (s.ch.map Chc.nums).flatten ++ ((s.gos.take (k + 1)).map Gr.nums).flatten = s.vars ++ s.own ++ (s.ch.map Chc.nums).flatten ++ ((s.gos.take k).map Gr.nums).flatten ++ g.four ++ g.rg := by
  rw [take_oneT h]
  simp [Gr.nums]
set_option maxHeartbeats 8000000 in
theorem numbers_anyT (s : Sts) (hs : s.wf) (w : World) : Calls Tryd.prog 21 #[s.val] w fun e w' => ∃ va vc, e = .returned (.slice va s.nums.length vc) ∧ Rows w' 1 va vc (s.nums.map chCells) ∧ Below w.heap.size w w' := by
  obtain ⟨iN, hiN', hzN', hsN', hbN'⟩ := info_q infoT64
  have hiN : Hid (Tryd.prog.info? 2 = some iN) := hiN'
  have hzN : Hid _ := hzN'
  have hsN : Hid _ := hsN'
  have hbN : Hid _ := hbN'
  clear hiN' hzN' hsN' hbN'
  have hw : Hid s.wf := hs
  have s0 : Hid (NuS w (w.alloc (objSt s)) s [] none 0) := ⟨boxed _ _, inS_new _ _, own_nil_q _ _ _ _⟩
  obtain ⟨ZG, hzG, hZG, _⟩ := zero_big (P := Tryd.prog) (t := 35) (n := 12) (by kernel_rfl)
  obtain ⟨ZC, hzC, hZC, _⟩ := zero_big (P := Tryd.prog) (t := 32) (n := 9) (by kernel_rfl)
  have hzGH : Hid (∀ w, (zeroValue 35).run Tryd.prog w = .ok (.agg ZG) w) := hzG
  have hzCH : Hid (∀ w, (zeroValue 32).run Tryd.prog w = .ok (.agg ZC) w) := hzC
  have huO : Hid (Tryd.prog.underlying 29 = _) := Tryd.underlying29
  have huC : Hid (Tryd.prog.underlying 33 = _) := Tryd.underlying33
  have huG : Hid (Tryd.prog.underlying 36 = _) := Tryd.underlying36
  obtain ⟨GA, hGA⟩ : ∃ GA, Hid ((s.gos.map Gr.cells).flatten = GA) := ⟨_, rfl⟩
  obtain ⟨CA, hCA⟩ : ∃ CA, Hid ((s.ch.map Chc.cells).flatten = CA) := ⟨_, rfl⟩
  obtain ⟨OA, hOA⟩ : ∃ OA, Hid (ints s.own = OA) := ⟨_, rfl⟩
  have hgl : GA.length = 72 := by rw [← hGA.out]; exact gos_len hs
  have hcl : CA.length = 36 := by rw [← hCA.out]; exact chs_len hs
  have hol : OA.length = 4 := by rw [← hOA.out, List.length_map]; exact hs.lo
  have rG : Hid (∀ W, InS W w.heap.size s → W.rangeAt w.heap.size 48 GA) := fun W h => by rw [← hGA.out]; exact h.rgos hw.out
  have rC : Hid (∀ W, InS W w.heap.size s → W.rangeAt w.heap.size 12 CA) := fun W h => by rw [← hCA.out]; exact h.rchs hw.out
  have rO : Hid (∀ W, InS W w.heap.size s → W.rangeAt w.heap.size 8 OA) := fun W h => by rw [← hOA.out]; exact h.rown hw.out
  have iG : Hid ((Tryd.prog.info? 36).map (·.size) = some GA.length) := by (show _ = _; rw [hgl]; kernel_rfl)
  have iC : Hid ((Tryd.prog.info? 33).map (·.size) = some CA.length) := by (show _ = _; rw [hcl]; kernel_rfl)
  have iO : Hid ((Tryd.prog.info? 29).map (·.size) = some OA.length) := by (show _ = _; rw [hol]; kernel_rfl)
  have xG : Hid (∀ (k : Nat) (g : Gr), s.gos[k]? = some g → ∀ wx, (Instr.index 36 (.agg GA.toArray) (.int .i64 (k : Int))).run Tryd.prog wx = .ok (.agg g.cells.toArray) wx) := fun k g hk => by
    rw [← hGA.out]
    exact ix_rows Tryd.underlying36 (fun wx => Tryd.sizeOf35 wx) Tryd.underlying35 (fun r hr => by obtain ⟨x, hx, rfl⟩ := List.mem_map.mp hr; exact Gr.len (hw.out.ag x hx)) (by rw [List.length_map]; exact hw.out.lg) (by rw [List.getElem?_map, hk]; rfl)
  have xC : Hid (∀ (k : Nat) (g : Chc), s.ch[k]? = some g → ∀ wx, (Instr.index 33 (.agg CA.toArray) (.int .i64 (k : Int))).run Tryd.prog wx = .ok (.agg g.cells.toArray) wx) := fun k g hk => by
    rw [← hCA.out]
    exact ix_rows Tryd.underlying33 (fun wx => Tryd.sizeOf32 wx) Tryd.underlying32 (fun r hr => by obtain ⟨x, hx, rfl⟩ := List.mem_map.mp hr; exact Chc.len (hw.out.ac x hx)) (by rw [List.length_map]; exact hw.out.lc) (by rw [List.getElem?_map, hk]; rfl)
  have xO : Hid (∀ (k : Nat) (x : Int), s.own[k]? = some x → ∀ wx, (Instr.index 29 (.agg OA.toArray) (.int .i64 (k : Int))).run Tryd.prog wx = .ok (.int .i64 x) wx) := fun k x hk => by
    rw [← hOA.out]
    exact ix_ints Tryd.underlying29 (fun wx => Tryd.sizeOf3 wx) Tryd.underlying3 hw.out.lo hk
  have xV := sl_all Tryd.underlying28 (fun wx => Tryd.sizeOf2 wx) w.heap.size 0 (by omega)
  have hlv := hs.lv
  clear hzG hzC hgl hcl hol hs
  go_enter Tryd.func21, Tryd.ntmps21
  go_upto_region 1 with fail
  change Code.wp _ _ _ _ (w.alloc (objSt s))
  generalize w.alloc (objSt s) = V0 at *
  have rV : Hid (Rows V0 1 (some ⟨w.heap.size, 0, none⟩) 8 (s.vars.map chCells)) := s0.out.i.vars hw.out
  go_upto_region 2 with (first
    | (at_builtin; (refine wpList_app rfl (.const (.slice none 0 0)) (.tmp 11) 54 rfl (w.heap.size + 1) 2 iN _ 1 8 Tryd.underlying54 hiN.out hzN.out hsN.out hbN.out rfl (by decide) none 0 [] rfl (own_nil_q _ _ _ _) (some ⟨w.heap.size, 0, none⟩) 8 (s.vars.map chCells) (by rw [List.length_map, hlv]; rfl) rV.out (len1t _) (oneNt _) (by rw [List.length_map, hlv]; unfold maxLen; decide) (by rw [List.length_map, hlv]; decide) (by have := s0.out.i.lt; omega) ?_); intro va' vc' w2 ho2 hk2 hb2 hbl2; simp only [List.nil_append, List.length_map, hlv]; (have h1 : Hid (NuS w w2 s s.vars va' vc') := s0.out.app (L := []) ho2 hb2); clear ho2 hb2))
  clear s0 rV xV
  have hrO : Hid (w2.rangeAt w.heap.size 8 OA) := rO.out w2 h1.out.i
  go_wp2_with (first
    | ((with_reducible refine at_loadQ 29 _ rfl ?_); refine stopQ_out ?_; refine wpList_load_mid rfl 29 _ rfl w.heap.size 8 rfl OA _ hrO.out huO.out rfl iO.out ?_))
  clear hrO
  go_loopw [3, 15] (fun o u wr => ∃ (k : Nat) (L : List Int) (va : Option Addr) (vc : Nat), k ≤ 4 ∧ u = .int .i64 (k : Int) ∧ o = .slice va L.length vc ∧ Hid (L = s.vars ++ s.own.take k) ∧ Hid (NuS w wr s L va vc)) (fun _ u _ => 4 - (intOf u).toNat)
  case atStart => exact ⟨0, s.vars, va', vc', by omega, rfl, by rw [hlv], by (show _ = _; simp), h1⟩
  case round =>
    clear h1 hk2 hbl2
    obtain ⟨k, L, va, vc, hk, rfl, rfl, hL, hV⟩ := hrel
    by_cases hlt : k < 4
    · have hkI : (k : Int) < 4 := by omega
      obtain ⟨x, hx, hxm⟩ := get_lt s.own k (by rw [hw.out.lo]; exact hlt)
      have xk := xO.out k x hx
      have hLl : L.length ≤ 12 := by rw [hL.out, List.length_append, hlv, List.length_take]; omega
      have hN : Hid (L ++ [x] = s.vars ++ s.own.take (k + 1)) := by (show _ = _; rw [hL.out, take_oneT hx, List.append_assoc])
      clear hx hxm hL
      go_wp2_with (first
        | (at_builtin; (refine wpList_app1 rfl (.tmp 18) (.tmp 20) 54 rfl (w.heap.size + 1) 2 iN _ 1 8 Tryd.underlying54 hiN.out hzN.out hsN.out hbN.out rfl (by decide) va vc (L.map chCells) (by rw [List.length_map]; rfl) hV.out.o (chCells x) rfl rfl (one1t _) (by rw [List.length_map]; unfold maxLen; omega) (by rw [List.length_map]; omega) (by have := hV.out.i.lt; omega) ?_); intro va' vc' w2 hg; rw [List.length_map]; (have hg2 : Hid (NuS w w2 s (L ++ [x]) va' vc') := hV.out.grown hg); clear hg))
      go_roundw
      case rel => exact ⟨k + 1, L ++ [x], va', vc', by omega, by go_num, by rw [List.length_append]; rfl, hN, hg2⟩
      case measure => simp [intOf]; omega
    · have hke : k = 4 := by omega
      have hkI : ¬ (k : Int) < 4 := by omega
      have hL0 : Hid (L = s.vars ++ s.own ++ ((s.ch.take 0).map Chc.nums).flatten) := by (show _ = _; rw [hL.out, hke, List.take_of_length_le (by rw [hw.out.lo]; omega)]; simp)
      have hrC : Hid (wr.rangeAt w.heap.size 12 CA) := rC.out wr hV.out.i
      clear hL hke hk
      go_wp2_with (first
        | ((with_reducible refine at_loadQ 33 _ rfl ?_); refine stopQ_out ?_; refine wpList_load_mid rfl 33 _ rfl w.heap.size 12 rfl CA _ hrC.out huC.out rfl iC.out ?_))
      clear hrC
      go_loopw [3, 25] (fun o u wr => ∃ (k : Nat) (L : List Int) (va : Option Addr) (vc : Nat), k ≤ 4 ∧ u = .int .i64 (k : Int) ∧ o = .slice va L.length vc ∧ Hid (L = s.vars ++ s.own ++ ((s.ch.take k).map Chc.nums).flatten) ∧ Hid (NuS w wr s L va vc)) (fun _ u _ => 4 - (intOf u).toNat)
      case atStart => exact ⟨0, L, va, vc, by omega, rfl, rfl, hL0, hV⟩
      case round =>
        clear hV hL0
        obtain ⟨k, L, va, vc, hk, rfl, rfl, hL, hV⟩ := hrel
        by_cases hlt : k < 4
        · have hkI : (k : Int) < 4 := by omega
          obtain ⟨c, hc, hcm⟩ := get_lt s.ch k (by rw [hw.out.lc]; exact hlt)
          have hcw : Hid c.wf := hw.out.ac c hcm
          have xk := xC.out k c hc
          have hLl : L.length ≤ 48 := by rw [hL.out, fl_len hw.out k hk]; omega
          have hN : Hid (L ++ c.buf ++ c.five = s.vars ++ s.own ++ ((s.ch.take (k + 1)).map Chc.nums).flatten) := by (show _ = _; rw [hL.out, fl_more hc])
          have hcb : c.buf.length = 4 := hcw.out.2.2.2.2.1
          have hzi : (wr.alloc (.cells ZC 32)).heap[wr.heap.size]? = some (.cells ZC 32) := heap_alloc_new wr _
          have hi9 : Hid ((Tryd.prog.info? 32).map (·.size) = some c.cells.toArray.size) := infoC hcw.out
          have hZs : Hid (ZC.size = c.cells.toArray.size) := by (show _ = _; rw [hZC, List.size_toArray, Chc.len hcw.out])
          have h3 : Hid (NuC w ((wr.alloc (.cells ZC 32)).setRow wr.heap.size c.cells.toArray) s L va vc wr.heap.size (objCh c)) := ⟨hV.out.later ((boxed _ _).trans ⟨rfl, rfl, rfl, by rw [setRow_size]; exact Nat.le_refl _, fun q hq => setRow_other _ _ q _ (by omega)⟩), setRow_heap _ _ _ _ _ _ hzi, fun q => by have := (blk_lt hV.out.o _ q).2; omega⟩
          clear hL hV hc hcm
          go_upto_region 10 with (first
            | ((with_reducible refine at_allocQ 32 rfl ?_); refine stopQ_out ?_; refine wpList_alloc_big rfl 32 rfl hzCH.out ?_)
            | ((with_reducible refine at_storeQ 32 _ _ rfl ?_); refine stopQ_out ?_; refine wpList_store_row rfl 32 _ _ rfl wr.heap.size c.cells.toArray rfl rfl _ _ hzi hi9.out hZs.out (oneC c) ?_))
          clear xk hzi hi9 hZs
          generalize (wr.alloc (.cells ZC 32)).setRow wr.heap.size c.cells.toArray = Y at *
          generalize wr.heap.size = CB at *
          have xB := sl_all Tryd.underlying30 (fun wx => Tryd.sizeOf2 wx) CB 0 (by omega)
          have rB : Hid (Rows Y 1 (some ⟨CB, 0, none⟩) c.buf.length (c.buf.map chCells)) := rows_ints (l := c.buf) [] [.int .i64 c.ln, .bool c.shut, .int .i64 c.off, .int .i64 c.frm, .int .i64 c.val] h3.out.c rfl rfl (by omega)
          rw [hcb] at rB
          go_upto_region 11 with (first
            | (at_builtin; (refine wpList_app rfl (.tmp 28) (.tmp 30) 54 rfl (w.heap.size + 1) 2 iN _ 1 8 Tryd.underlying54 hiN.out hzN.out hsN.out hbN.out rfl (by decide) va vc (L.map chCells) (by rw [List.length_map]; rfl) h3.out.n.o (some ⟨CB, 0, none⟩) 4 (c.buf.map chCells) (by rw [List.length_map, hcb]; rfl) rB.out (len1t _) (oneNt _) (by rw [List.length_map, List.length_map, hcb]; unfold maxLen; omega) (by rw [List.length_map, List.length_map, hcb]; omega) (by have := h3.out.n.i.lt; omega) ?_); intro va' vc' w2 ho2 hk2 hb2 hbl2; rw [List.length_append, List.length_map, List.length_map]; (have h5 : Hid (NuC w w2 s (L ++ c.buf) va' vc' CB (objCh c)) := h3.out.app ho2 hk2 hb2 hbl2); clear ho2 hb2 hk2 hbl2))
          clear h3 rB xB
          have hCB : Hid (w2.heap[CB]? = some (objCh c)) := h5.out.c
          refine wp_region_held_drew (S := fun W' => W'.heap[CB]? = some (objCh c)) (by kernel_rfl) hCB.out (fun _ => ?_)
          refine reg_move (i := 0) rfl (by kernel_rfl) (by kernel_rfl) (by kernel_rfl) (fun _ _ _ _ h => h) rfl (.slice va' (L.length + 4) vc') (fun _ => rfl) hCB.out ?_
          simp only [Act.put, List.getElem_toArray, List.getElem_cons_succ, List.getElem_cons_zero, List.setIfInBounds_toArray, List.set_cons_zero, List.set_cons_succ]
          refine reg_move (i := 1) rfl (by kernel_rfl) (by kernel_rfl) (by kernel_rfl) (fun _ _ _ _ h => h) rfl (.pointer (some ⟨CB, 4, none⟩)) (fun _ => by kernel_rfl) hCB.out ?_
          simp only [Act.put, List.getElem_toArray, List.getElem_cons_succ, List.getElem_cons_zero, List.setIfInBounds_toArray, List.set_cons_zero, List.set_cons_succ]
          refine reg_load1 (i := 2) rfl (by kernel_rfl) (by kernel_rfl) (by kernel_rfl) (fun _ _ _ _ h => h) rfl 3 _ rfl ⟨CB, 4, none⟩ rfl _ Tryd.underlying3 rfl ((.int .i64 c.ln)) (fun W' h => cell_ofG h (chc_at hcw.out).1) hCB.out ?_
          simp only [Act.put, List.getElem_toArray, List.getElem_cons_succ, List.getElem_cons_zero, List.setIfInBounds_toArray, List.set_cons_zero, List.set_cons_succ]
          refine reg_move (i := 3) rfl (by kernel_rfl) (by kernel_rfl) (by kernel_rfl) (fun _ _ _ _ h => h) rfl (.pointer (some ⟨CB, 5, none⟩)) (fun _ => by kernel_rfl) hCB.out ?_
          simp only [Act.put, List.getElem_toArray, List.getElem_cons_succ, List.getElem_cons_zero, List.setIfInBounds_toArray, List.set_cons_zero, List.set_cons_succ]
          refine reg_load1 (i := 4) rfl (by kernel_rfl) (by kernel_rfl) (by kernel_rfl) (fun _ _ _ _ h => h) rfl 4 _ rfl ⟨CB, 5, none⟩ rfl _ Tryd.underlying4 rfl ((.bool c.shut)) (fun W' h => cell_ofG h (chc_at hcw.out).2.1) hCB.out ?_
          simp only [Act.put, List.getElem_toArray, List.getElem_cons_succ, List.getElem_cons_zero, List.setIfInBounds_toArray, List.set_cons_zero, List.set_cons_succ]
          refine reg_move (i := 6) rfl (by kernel_rfl) (by kernel_rfl) (by kernel_rfl) (fun _ _ _ _ h => h) rfl (.pointer (some ⟨CB, 6, none⟩)) (fun _ => by kernel_rfl) hCB.out ?_
          simp only [Act.put, List.getElem_toArray, List.getElem_cons_succ, List.getElem_cons_zero, List.setIfInBounds_toArray, List.set_cons_zero, List.set_cons_succ]
          refine reg_load1 (i := 7) rfl (by kernel_rfl) (by kernel_rfl) (by kernel_rfl) (fun _ _ _ _ h => h) rfl 3 _ rfl ⟨CB, 6, none⟩ rfl _ Tryd.underlying3 rfl ((.int .i64 c.off)) (fun W' h => cell_ofG h (chc_at hcw.out).2.2.1) hCB.out ?_
          simp only [Act.put, List.getElem_toArray, List.getElem_cons_succ, List.getElem_cons_zero, List.setIfInBounds_toArray, List.set_cons_zero, List.set_cons_succ]
          refine reg_move (i := 8) rfl (by kernel_rfl) (by kernel_rfl) (by kernel_rfl) (fun _ _ _ _ h => h) rfl (.pointer (some ⟨CB, 7, none⟩)) (fun _ => by kernel_rfl) hCB.out ?_
          simp only [Act.put, List.getElem_toArray, List.getElem_cons_succ, List.getElem_cons_zero, List.setIfInBounds_toArray, List.set_cons_zero, List.set_cons_succ]
          refine reg_load1 (i := 9) rfl (by kernel_rfl) (by kernel_rfl) (by kernel_rfl) (fun _ _ _ _ h => h) rfl 3 _ rfl ⟨CB, 7, none⟩ rfl _ Tryd.underlying3 rfl ((.int .i64 c.frm)) (fun W' h => cell_ofG h (chc_at hcw.out).2.2.2.1) hCB.out ?_
          simp only [Act.put, List.getElem_toArray, List.getElem_cons_succ, List.getElem_cons_zero, List.setIfInBounds_toArray, List.set_cons_zero, List.set_cons_succ]
          refine reg_move (i := 10) rfl (by kernel_rfl) (by kernel_rfl) (by kernel_rfl) (fun _ _ _ _ h => h) rfl (.pointer (some ⟨CB, 8, none⟩)) (fun _ => by kernel_rfl) hCB.out ?_
          simp only [Act.put, List.getElem_toArray, List.getElem_cons_succ, List.getElem_cons_zero, List.setIfInBounds_toArray, List.set_cons_zero, List.set_cons_succ]
          refine reg_load1 (i := 11) rfl (by kernel_rfl) (by kernel_rfl) (by kernel_rfl) (fun _ _ _ _ h => h) rfl 2 _ rfl ⟨CB, 8, none⟩ rfl _ Tryd.underlying2 rfl ((.int .i64 c.val)) (fun W' h => cell_ofG h (chc_at hcw.out).2.2.2.2) hCB.out ?_
          simp only [Act.put, List.getElem_toArray, List.getElem_cons_succ, List.getElem_cons_zero, List.setIfInBounds_toArray, List.set_cons_zero, List.set_cons_succ]
          refine reg_call1 (i := 5) (by kernel_rfl) rfl rfl 30 _ _ rfl (.bool c.shut) rfl (cf_fn Tryd.func30 (by kernel_rfl) (by kernel_rfl) _ _) _ (yes_any c.shut _) ?_
          rintro e5 w5 ⟨rfl, hw5⟩
          replace hw5 := hw5.symm
          subst hw5
          refine ⟨_, rfl, hCB.out, fun _ => ?_⟩
          simp only [Act.put, List.getElem_toArray, List.getElem_cons_succ, List.getElem_cons_zero, List.setIfInBounds_toArray, List.set_cons_zero, List.set_cons_succ]
          have h7 : Hid (NuC w (w2.drew.alloc (.cells #[.int .i64 c.ln, .int .i64 (b01 c.shut), .int .i64 c.off, .int .i64 c.frm, .int .i64 c.val] 2)) s (L ++ c.buf) va' vc' CB (objCh c)) := (h5.out.later (bey_drew _)).later (boxed _ _)
          have r7 : Hid (Rows (w2.drew.alloc (.cells #[.int .i64 c.ln, .int .i64 (b01 c.shut), .int .i64 c.off, .int .i64 c.frm, .int .i64 c.val] 2)) 1 (some ⟨w2.drew.heap.size, 0, none⟩) 5 (c.five.map chCells)) := rows_ints (l := c.five) [] [] (heap_alloc_new w2.drew (.cells #[.int .i64 c.ln, .int .i64 (b01 c.shut), .int .i64 c.off, .int .i64 c.frm, .int .i64 c.val] 2)) rfl rfl (by show 5 ≤ 1000; omega)
          refine reg_one (i := 12) (by kernel_rfl) rfl rfl (wpList_buildSlice rfl 54 2 5 _ rfl #[.int .i64 c.ln, .int .i64 (b01 c.shut), .int .i64 c.off, .int .i64 c.frm, .int .i64 c.val] iN _ Tryd.underlying54 hiN.out hzN.out (by rw [hsN.out]; omega) (by rw [hsN.out]; omega) (by simp only [hsN.out]; kernel_rfl) (wpList_nil (And.intro h7.out.c fun _ => ?_)))
          simp only [Act.put, List.getElem_toArray, List.getElem_cons_succ, List.getElem_cons_zero, List.setIfInBounds_toArray, List.set_cons_zero, List.set_cons_succ]
          have hf4 : (L ++ c.buf).length = L.length + 4 := by rw [List.length_append, hcb]
          generalize hL4 : L ++ c.buf = L4 at *
          rw [← hf4]
          generalize w2.drew.alloc (.cells #[.int .i64 c.ln, .int .i64 (b01 c.shut), .int .i64 c.off, .int .i64 c.frm, .int .i64 c.val] 2) = V7 at *
          refine reg_one (i := 13) (by kernel_rfl) rfl rfl ?_
          refine wpList_app rfl (.tmp 32) (.tmp 44) 54 rfl (w.heap.size + 1) 2 iN _ 1 8 Tryd.underlying54 hiN.out hzN.out hsN.out hbN.out rfl (by decide) va' vc' (L4.map chCells) (by rw [List.length_map]; rfl) h7.out.n.o (some ⟨w2.drew.heap.size, 0, none⟩) 5 (c.five.map chCells) (by rw [List.length_map]; rfl) r7.out (len1t _) (oneNt _) (by rw [List.length_map, List.length_map]; show _ + 5 ≤ _; unfold maxLen; omega) (by rw [List.length_map, List.length_map]; show (_ + 5) * 8 ≤ _; omega) (by have := h7.out.n.i.lt; omega) ?_
          intro va2 vc2 w8 ho2 hk2 hb2 hbl2
          have h8 : Hid (NuC w w8 s (L4 ++ c.five) va2 vc2 CB (objCh c)) := h7.out.app ho2 hk2 hb2 hbl2
          rw [List.length_append, List.length_map, List.length_map]
          clear ho2 hk2 hb2 hbl2
          refine wpList_nil (And.intro h8.out.c fun _ => ?_)
          simp only [Act.put, List.getElem_toArray, List.getElem_cons_succ, List.getElem_cons_zero, List.setIfInBounds_toArray, List.set_cons_zero, List.set_cons_succ]
          refine reg_move (i := 14) rfl (by kernel_rfl) (by kernel_rfl) (by kernel_rfl) (fun _ _ _ _ h => h) rfl (.slice va2 (L4.length + c.five.length) vc2) (fun _ => rfl) h8.out.c ?_
          simp only [Act.put, List.getElem_toArray, List.getElem_cons_succ, List.getElem_cons_zero, List.setIfInBounds_toArray, List.set_cons_zero, List.set_cons_succ]
          refine wpAnyH_done (by kernel_rfl) ?_ _
          clear h7 r7
          go_wp2_with fail
          go_roundw
          case rel => exact ⟨k + 1, L4 ++ c.five, _, _, by omega, by go_num, by rw [List.length_append], by (show _ = _; rw [← hN.out]), h8.out.n⟩
          case measure => simp [intOf]; omega
        · have hke : k = 4 := by omega
          have hkI : ¬ (k : Int) < 4 := by omega
          have hL0 : Hid (L = s.vars ++ s.own ++ (s.ch.map Chc.nums).flatten ++ ((s.gos.take 0).map Gr.nums).flatten) := by (show _ = _; rw [hL.out, hke, List.take_of_length_le (l := s.ch) (by rw [hw.out.lc]; omega)]; simp)
          have hrG : Hid (wr.rangeAt w.heap.size 48 GA) := rG.out wr hV.out.i
          clear hL hke hk
          go_wp2_with (first
            | ((with_reducible refine at_loadQ 36 _ rfl ?_); refine stopQ_out ?_; refine wpList_load_mid rfl 36 _ rfl w.heap.size 48 rfl GA _ hrG.out huG.out rfl iG.out ?_))
          clear hrG
          go_loopw [3, 49] (fun o u wr => ∃ (k : Nat) (L : List Int) (va : Option Addr) (vc : Nat), k ≤ 6 ∧ u = .int .i64 (k : Int) ∧ o = .slice va L.length vc ∧ Hid (L = s.vars ++ s.own ++ (s.ch.map Chc.nums).flatten ++ ((s.gos.take k).map Gr.nums).flatten) ∧ Hid (NuS w wr s L va vc)) (fun _ u _ => 6 - (intOf u).toNat)
          case atStart => exact ⟨0, L, va, vc, by omega, rfl, rfl, hL0, hV⟩
          case round =>
            clear hV hL0
            obtain ⟨k, L, va, vc, hk, rfl, rfl, hL, hV⟩ := hrel
            by_cases hlt : k < 6
            · have hkI : (k : Int) < 6 := by omega
              obtain ⟨g, hg, hgm⟩ := get_lt s.gos k (by rw [hw.out.lg]; exact hlt)
              have hgw : Hid g.wf := hw.out.ag g hgm
              have xk := xG.out k g hg
              have hLl : L.length ≤ 120 := by rw [hL.out, fg_len hw.out k hk]; omega
              have hN : Hid (L ++ g.four ++ g.rg = s.vars ++ s.own ++ (s.ch.map Chc.nums).flatten ++ ((s.gos.take (k + 1)).map Gr.nums).flatten) := by (show _ = _; rw [hL.out, fg_more hg])
              have hrl : g.rg.length = 8 := hgw.out.2.2.2.2.1
              have hzi : (wr.alloc (.cells ZG 35)).heap[wr.heap.size]? = some (.cells ZG 35) := heap_alloc_new wr _
              have hi12 : Hid ((Tryd.prog.info? 35).map (·.size) = some g.cells.toArray.size) := infoG hrl
              have hZs : Hid (ZG.size = g.cells.toArray.size) := by (show _ = _; rw [hZG, sizeG hrl])
              have h3 : Hid (NuC w ((wr.alloc (.cells ZG 35)).setRow wr.heap.size g.cells.toArray) s L va vc wr.heap.size (objG g)) := ⟨hV.out.later ((boxed _ _).trans ⟨rfl, rfl, rfl, by rw [setRow_size]; exact Nat.le_refl _, fun q hq => setRow_other _ _ q _ (by omega)⟩), setRow_heap _ _ _ _ _ _ hzi, fun q => by have := (blk_lt hV.out.o _ q).2; omega⟩
              clear hL hV hg hgm
              go_upto_region 16 with (first
                | ((with_reducible refine at_allocQ 35 rfl ?_); refine stopQ_out ?_; refine wpList_alloc_big rfl 35 rfl hzGH.out ?_)
                | ((with_reducible refine at_storeQ 35 _ _ rfl ?_); refine stopQ_out ?_; refine wpList_store_row rfl 35 _ _ rfl wr.heap.size g.cells.toArray rfl rfl _ _ hzi hi12.out hZs.out (oneG g) ?_))
              clear xk hzi hi12 hZs
              generalize (wr.alloc (.cells ZG 35)).setRow wr.heap.size g.cells.toArray = Y at *
              generalize wr.heap.size = CB at *
              have k0 : Y.cell? ⟨CB, 0, none⟩ = some (.int .i64 g.st) := cell_ofG h3.out.c rfl
              have k1 : Y.cell? ⟨CB, 1, none⟩ = some (.int .i64 g.fn) := cell_ofG h3.out.c rfl
              have k2 : Y.cell? ⟨CB, 2, none⟩ = some (.int .i64 g.pc) := cell_ofG h3.out.c rfl
              have k3 : Y.cell? ⟨CB, 3, none⟩ = some (.int .i64 g.why) := cell_ofG h3.out.c rfl
              have h4 : Hid (NuC w (Y.alloc (.cells #[.int .i64 g.st, .int .i64 g.fn, .int .i64 g.pc, .int .i64 g.why] 2)) s L va vc CB (objG g)) := h3.out.later (boxed _ _)
              have r4 : Hid (Rows (Y.alloc (.cells #[.int .i64 g.st, .int .i64 g.fn, .int .i64 g.pc, .int .i64 g.why] 2)) 1 (some ⟨Y.heap.size, 0, none⟩) 4 (g.four.map chCells)) := rows_ints (l := g.four) [] [] (heap_alloc_new Y (.cells #[.int .i64 g.st, .int .i64 g.fn, .int .i64 g.pc, .int .i64 g.why] 2)) rfl rfl (by show 4 ≤ 1000; omega)
              clear h3
              go_upto_region 17 with (first
                | (at_builtin; (refine wpList_app rfl (.tmp 52) (.tmp 61) 54 rfl (w.heap.size + 1) 2 iN _ 1 8 Tryd.underlying54 hiN.out hzN.out hsN.out hbN.out rfl (by decide) va vc (L.map chCells) (by rw [List.length_map]; rfl) h4.out.n.o (some ⟨Y.heap.size, 0, none⟩) 4 (g.four.map chCells) (by rw [List.length_map]; rfl) r4.out (len1t _) (oneNt _) (by rw [List.length_map, List.length_map]; show _ + 4 ≤ _; unfold maxLen; omega) (by rw [List.length_map, List.length_map]; show (_ + 4) * 8 ≤ _; omega) (by have := h4.out.n.i.lt; omega) ?_); intro va' vc' w2 ho2 hk2 hb2 hbl2; rw [List.length_append, List.length_map, List.length_map]; (have h5 : Hid (NuC w w2 s (L ++ g.four) va' vc' CB (objG g)) := h4.out.app ho2 hk2 hb2 hbl2); clear ho2 hb2 hk2 hbl2))
              clear h4 r4 k0 k1 k2 k3
              have xB := sl_all Tryd.underlying28 (fun wx => Tryd.sizeOf2 wx) CB 4 (by omega)
              have rB : Hid (Rows w2 1 (some ⟨CB, 4, none⟩) g.rg.length (g.rg.map chCells)) := rows_ints (l := g.rg) [.int .i64 g.st, .int .i64 g.fn, .int .i64 g.pc, .int .i64 g.why] [] h5.out.c (by simp [Gr.cells]) rfl (by omega)
              rw [hrl] at rB
              have hf4 : (L ++ g.four).length = L.length + g.four.length := List.length_append
              generalize hL4 : L ++ g.four = L4 at *
              rw [← hf4]
              have hf5 : L4.length ≤ 124 := by (rw [hf4]; show L.length + 4 ≤ 124; omega)
              go_wp2_with (first
                | (at_builtin; (refine wpList_app rfl (.tmp 63) (.tmp 65) 54 rfl (w.heap.size + 1) 2 iN _ 1 8 Tryd.underlying54 hiN.out hzN.out hsN.out hbN.out rfl (by decide) va' vc' (L4.map chCells) (by rw [List.length_map]; rfl) h5.out.n.o (some ⟨CB, 4, none⟩) 8 (g.rg.map chCells) (by rw [List.length_map, hrl]; rfl) rB.out (len1t _) (oneNt _) (by rw [List.length_map, List.length_map, hrl]; unfold maxLen; omega) (by rw [List.length_map, List.length_map, hrl]; omega) (by have := h5.out.n.i.lt; omega) ?_); intro va2 vc2 w3 ho2 hk2 hb2 hbl2; rw [List.length_append, List.length_map, List.length_map]; (have h6 : Hid (NuS w w3 s (L4 ++ g.rg) va2 vc2) := h5.out.n.app ho2 hb2); clear ho2 hb2 hk2 hbl2))
              go_roundw
              case rel => exact ⟨k + 1, L4 ++ g.rg, _, _, by omega, by go_num, by rw [List.length_append, hrl, hf4], by (show _ = _; rw [← hN.out]), h6⟩
              case measure => simp [intOf]; omega
            · have hke : k = 6 := by omega
              have hkI : ¬ (k : Int) < 6 := by omega
              have hLl : L.length ≤ 120 := by rw [hL.out, fg_len hw.out k hk]; omega
              have hE : Hid (L ++ [s.cnt] = s.nums) := by (show _ = _; rw [hL.out, hke, List.take_of_length_le (l := s.gos) (by rw [hw.out.lg]; omega)]; rfl)
              have kc := hV.out.i.cnt hw.out
              clear hL hke
              go_wp2_with (first
                | (at_builtin; (refine wpList_app1 rfl (.tmp 68) (.tmp 71) 54 rfl (w.heap.size + 1) 2 iN _ 1 8 Tryd.underlying54 hiN.out hzN.out hsN.out hbN.out rfl (by decide) va vc (L.map chCells) (by rw [List.length_map]; rfl) hV.out.o (chCells s.cnt) rfl rfl (one1t _) (by rw [List.length_map]; unfold maxLen; omega) (by rw [List.length_map]; omega) (by have := hV.out.i.lt; omega) ?_); intro va' vc' w2 hg; rw [List.length_map]; (have hg2 : Hid (NuS w w2 s (L ++ [s.cnt]) va' vc') := hV.out.grown hg); clear hg))
              go_ret
              refine ⟨va', vc', ?_, ?_, hg2.out.b⟩
              · rw [← hE.out, List.length_append]; rfl
              · rw [← hE.out]; exact own_rows hg2.out.o (len1t _)
end Go.Proofs.YtgmpdnmheiblpaaDoor.pg

