/- The statements' small example: plain, and walked. -/
import Derived.Test.YtdfnmlcpimiboaaM31
namespace Go.Proofs.Ytdfnmlcpimiboaa.pg
open Go.ChangeShapes Go.WideShapes Go.ChangeAt Go.RowKit Go.Shelf
set_option linter.unusedVariables false
set_option linter.unusedSimpArgs false
set_option maxRecDepth 100000
attribute [local go_sem ↓] Go.wp_at_zero Go.wp_at_succ
def l6 : List Ev := [tkEv 1 0, tkEv 1 1, gvEv 1 1, gvEv 1 0, tkEv 2 1, tkEv 2 0]
/-- An event that touches a lock and its goroutine. -/
theorem lkEv_right (g k o : Int) (h0 : 0 ≤ g) (h1 : g < 6) (h2 : 0 ≤ k) (h3 : k < 4) : rightP ⟨g, 0, 0, o, 0, 0, 0, ⟨2, k, true⟩, ⟨5, g, true⟩, acc0, acc0, acc0, acc0, 2⟩ := by
  have ht : tN 2 = 2 := by decide
  refine ⟨⟨h0, h1, by show (1 : Int) ≤ 2; omega, by show (2 : Int) ≤ 6; omega⟩, fun i hi => ?_, ?_, ?_⟩
  · change i < tN 2 at hi
    rw [ht] at hi
    match i, hi with
    | 0, _ =>
      intro a ha
      have : a = ⟨2, k, true⟩ := by simpa [Ev.list] using ha.symm
      subst this
      have hm : k < manyP 2 := by rw [show manyP 2 = 4 by decide]; exact h3
      exact ⟨⟨h2, hm⟩, fun q => by omega⟩
    | 1, _ =>
      intro a ha
      have : a = ⟨5, g, true⟩ := by simpa [Ev.list] using ha.symm
      subst this
      have hm5 : g < manyP 5 := by rw [show manyP 5 = 6 by decide]; exact h1
      refine ⟨⟨h0, hm5⟩, fun _ b hb => ?_⟩
      have : b = ⟨2, k, true⟩ := by simpa [Ev.list] using hb.symm
      subst this
      simp [bef]
  · change ∀ a ∈ List.drop (tN 2) _, a = acc0
    rw [ht]
    intro a ha
    simp [Ev.list] at ha
    exact ha
  · unfold Ev.of
    change _ ∈ List.take (tN 2) _
    rw [ht]
    simp [Ev.list]
theorem tk_right (g k : Int) (h0 : 0 ≤ g) (h1 : g < 6) (h2 : 0 ≤ k) (h3 : k < 4) : rightP (tkEv g k) := lkEv_right g k 55 h0 h1 h2 h3
theorem gv_right (g k : Int) (h0 : 0 ≤ g) (h1 : g < 6) (h2 : 0 ≤ k) (h3 : k < 4) : rightP (gvEv g k) := lkEv_right g k 56 h0 h1 h2 h3
theorem check6 : checkP l6 0 := .inr (.inr ⟨by decide, by
  intro x hx
  simp [l6] at hx
  rcases hx with rfl | rfl | rfl | rfl | rfl | rfl
  · exact tk_right 1 0 (by omega) (by omega) (by omega) (by omega)
  · exact tk_right 1 1 (by omega) (by omega) (by omega) (by omega)
  · exact gv_right 1 1 (by omega) (by omega) (by omega) (by omega)
  · exact gv_right 1 0 (by omega) (by omega) (by omega) (by omega)
  · exact tk_right 2 1 (by omega) (by omega) (by omega) (by omega)
  · exact tk_right 2 0 (by omega) (by omega) (by omega) (by omega), rfl⟩)
theorem rng6 : rngR l6 0 = [[0, 1]] := by decide +kernel
theorem grd6 : grdR l6 [0, 1] 0 = (false, 0) := by decide +kernel
theorem hld6 : hldR l6 5 0 = ([1], 0) := by decide +kernel
theorem rows_flatG {W : World} {B : Nat} {L : List Ev} {t : TypeId} (h : W.heap[B]? = some (.cells (L.map Ev.cells).flatten.toArray t (0, 0))) (hl : L.length ≤ 256) : Rows W 26 (some ⟨B, 0, none⟩) L.length (L.map Ev.cells) := by
  have hk : ∀ row ∈ L.map Ev.cells, row.length = 26 := fun row hm => by rw [List.mem_map] at hm; obtain ⟨y, _, rfl⟩ := hm; rfl
  refine ⟨by simp, by omega, by simp, .inr ⟨B, 0, rfl, (Array.getElem?_eq_some_iff.mp h).1, fun i row hi => ⟨hk row (List.mem_of_getElem? hi), fun j u hj => ?_⟩⟩⟩
  rw [Nat.zero_add, cell_of_row W B _ _ _ _ h]
  have hj26 : j < 26 := by have := (List.getElem?_eq_some_iff.mp hj).1; have := hk row (List.mem_of_getElem? hi); omega
  have := flatten_at (k := 26) (L.map Ev.cells) hk i row hi j hj26
  rw [hj] at this
  simpa using this
theorem rows_intsG {W : World} {B : Nat} {L : List Int} {t : TypeId} (h : W.heap[B]? = some (.cells (L.map chCells).flatten.toArray t (0, 0))) (hl : L.length ≤ 256) : Rows W 1 (some ⟨B, 0, none⟩) L.length (L.map chCells) := by
  have hk : ∀ row ∈ L.map chCells, row.length = 1 := fun row hm => by rw [List.mem_map] at hm; obtain ⟨y, _, rfl⟩ := hm; rfl
  refine ⟨by simp, by omega, by simp, .inr ⟨B, 0, rfl, (Array.getElem?_eq_some_iff.mp h).1, fun i row hi => ⟨hk row (List.mem_of_getElem? hi), fun j u hj => ?_⟩⟩⟩
  rw [Nat.zero_add, cell_of_row W B _ _ _ _ h]
  have hj1 : j < 1 := by have := (List.getElem?_eq_some_iff.mp hj).1; have := hk row (List.mem_of_getElem? hi); omega
  have := flatten_at (k := 1) (L.map chCells) hk i row hi j hj1
  rw [hj] at this
  simpa using this
end Go.Proofs.Ytdfnmlcpimiboaa.pg
/- The statements' small example, walked. -/
namespace Go.Proofs.Ytdfnmlcpimiboaa.pg
open Go.ChangeShapes Go.WideShapes Go.ChangeAt Go.RowKit Go.Shelf
set_option linter.unusedVariables false
set_option linter.unusedSimpArgs false
set_option maxRecDepth 100000
attribute [local go_sem ↓] Go.wp_at_zero Go.wp_at_succ
theorem infoEvG : (Try.prog.info? 55).map (fun i => (i.zero, i.size, i.bytes)) = some (some (.agg evZG.cells.toArray), 26, 208) := by kernel_rfl
theorem at_bslG {P : Program} {ops : Array Oper} {rest : List Oper} {op : Oper} {a : Act} {w : World} {Q : Exit → Act → World → Prop} (ty : TypeId) (n : Nat) (x : Array (Nat × Operand)) (ho : op.op = .buildSlice ty n x) (h : StopG (wpList P ops Q (op :: rest) a w)) : wpList P ops Q (op :: rest) a w := h
section
variable {w : World}
theorem rings6 {a : Option Addr} (h : Rows w 26 a 6 (l6.map Ev.cells)) : Calls Try.prog 16 #[.slice a 6 6] w fun e w' => ∃ b cap P, e = .returned (.tuple #[.slice b P.length cap, .int .i64 0]) ∧ P.map (·.2.1) = [[0, 1]] ∧ RgR w' b cap P ∧ Below w.heap.size w w' := by
  refine (gRings_any h 0 check6).mono fun e w' ⟨b, cap, P, he, hm, hM⟩ => ⟨b, cap, P, he, ?_, rgR_of hM.l, hM.b⟩
  rw [hm, rng6]
theorem guarded6 {a : Option Addr} {ra : Option Addr} {rc : Nat} (h : Rows w 26 a 6 (l6.map Ev.cells)) (hr : Rows w 1 ra rc (([0, 1] : List Int).map chCells)) : Calls Try.prog 18 #[.slice a 6 6, .slice ra 2 rc] w fun e w' => e = .returned (.tuple #[.bool false, .int .i64 0]) ∧ Below w.heap.size w w' := by
  have q := gGuarded_any h hr 0 check6
  rw [grd6] at q
  exact q
theorem held6 {a : Option Addr} (h : Rows w 26 a 6 (l6.map Ev.cells)) : Calls Try.prog 10 #[.slice a 6 6, .int .i64 5] w fun e w' => ∃ b cap, e = .returned (.tuple #[.slice b 1 cap, .int .i64 0]) ∧ Rows w' 1 b cap (([1] : List Int).map chCells) ∧ Below w.heap.size w w' := by
  have q := gHeld_any h 5 0 check6
  rw [hld6] at q
  exact q
/-- A ring of two, and a list of it alone. -/
theorem one_ring {w1 : World} : RgR ((w1.alloc (.cells #[.int .i64 0, .int .i64 1] 3)).alloc (.cells #[.slice (some ⟨w1.heap.size, 0, none⟩) 2 2] 29)) (some ⟨w1.heap.size + 1, 0, none⟩) 1 [((some ⟨w1.heap.size, 0, none⟩, [0, 1], 2) : Rng)] := by
  have e := World.size_alloc w1 (.cells #[.int .i64 0, .int .i64 1] 3)
  refine ⟨?_, fun s hs => ?_⟩
  · rw [← e]
    exact rows_one_q (heap_new_q _ _) rfl
  · rw [List.mem_singleton] at hs
    subst hs
    exact (rows_intsG (L := [0, 1]) (heap_new_q w1 _) (by decide)).later (boxed _ _)
theorem same6 {w5 : World} {pa : Option Addr} {pc : Nat} {P : List Rng} (h : RgR w5 pa pc P) (hm : P.map (·.2.1) = [[0, 1]]) : Calls Try.prog 20 #[.slice pa P.length pc, .slice (some ⟨w5.heap.size + 1, 0, none⟩) 1 1] ((w5.alloc (.cells #[.int .i64 0, .int .i64 1] 3)).alloc (.cells #[.slice (some ⟨w5.heap.size, 0, none⟩) 2 2] 29)) fun e w' => e = .returned (.bool true) ∧ Below w5.heap.size w5 w' := by
  have hb : Below w5.heap.size w5 ((w5.alloc (.cells #[.int .i64 0, .int .i64 1] 3)).alloc (.cells #[.slice (some ⟨w5.heap.size, 0, none⟩) 2 2] 29)) := bthen (boxed _ _) (boxed _ _)
  exact (sameRows_any P [((some ⟨w5.heap.size, 0, none⟩, [0, 1], 2) : Rng)] hm (h.later hb) one_ring).mono fun e w' q => ⟨q.1, bthen hb q.2⟩
set_option maxHeartbeats 1000000 in
theorem smallG_any (w : World) : Calls Try.prog 15 #[] w fun e w' => e = .returned (.bool true) ∧ Below w.heap.size w w' := by
  have cT : ∀ (g v : Int) wx, Calls Try.prog 23 #[.int .i64 g, .int .i64 v] wx _ := fun g v wx => taking_any g v wx
  have cV : ∀ (g v : Int) wx, Calls Try.prog 30 #[.int .i64 g, .int .i64 v] wx _ := fun g v wx => giving_any g v wx
  obtain ⟨iE, hiE, hzE, hsE, hbE⟩ := info_q infoEvG
  have hiH : Hid (Try.prog.info? 55 = some iE ∧ iE.zero = some (.agg evZG.cells.toArray) ∧ iE.size = 26) := ⟨hiE, hzE, hsE⟩
  obtain ⟨iN, hiN', hzN', hsN', hbN'⟩ := info_q infoNlG
  have hiN : Hid (Try.prog.info? 3 = some iN) := hiN'
  have hzN : Hid _ := hzN'
  have hsN : Hid _ := hsN'
  obtain ⟨iS, hiS', hzS', hsS', hbS'⟩ := info_q infoSlG
  have hiS : Hid (Try.prog.info? 29 = some iS) := hiS'
  have hzS : Hid _ := hzS'
  have hsS : Hid _ := hsS'
  clear hiE hzE hsE hbE hiN' hzN' hsN' hbN' hiS' hzS' hsS' hbS'
  go_enter Try.func15, Try.ntmps15
  go_upto_region 2 with (first
    | (go_at_call 23; (with_reducible refine (cT _ _ _).mono ?_); rintro e w1 ⟨rfl, hb1⟩; (have hB1 : Hid (Below w.heap.size w w1) := by first | exact bthen hB1.out hb1 | exact hb1); clear hb1)
    | (go_at_call 30; (with_reducible refine (cV _ _ _).mono ?_); rintro e w1 ⟨rfl, hb1⟩; (have hB1 : Hid (Below w.heap.size w w1) := by first | exact bthen hB1.out hb1 | exact hb1); clear hb1)
    | (refine wpList_buildSlice rfl 22 55 6 _ rfl (l6.map Ev.cells).flatten.toArray iE _ Try.underlying22 hiH.out.1 hiH.out.2.1 (by rw [hiH.out.2.2]; omega) (by rw [hiH.out.2.2]; omega) (by simp only [hiH.out.2.2]; kernel_rfl) ?_))
  have h2 : Hid (Below w.heap.size w (w1.alloc (.cells (l6.map Ev.cells).flatten.toArray 55)) ∧ Rows (w1.alloc (.cells (l6.map Ev.cells).flatten.toArray 55)) 26 (some ⟨w1.heap.size, 0, none⟩) 6 (l6.map Ev.cells)) := ⟨bthen hB1.out (boxed _ _), rows_flatG (L := l6) (heap_new_q w1 _) (by decide)⟩
  change Code.wp _ _ _ _ (w1.alloc (.cells (l6.map Ev.cells).flatten.toArray 55))
  try simp only [Act.put, List.getElem_toArray, List.getElem_cons_succ, List.getElem_cons_zero, List.setIfInBounds_toArray, List.set_cons_zero, List.set_cons_succ]
  generalize w1.alloc (.cells (l6.map Ev.cells).flatten.toArray 55) = W2 at *
  generalize w1.heap.size = B at *
  clear hB1
  go_upto_region 5 with (first
    | (go_at_call 16; (refine (rings6 h2.out.2).mono ?_); rintro e w3 ⟨pa, pc, P, rfl, hm3, hP3, hb3⟩; (have h3 : Hid (Below w.heap.size w w3 ∧ Rows w3 26 (some ⟨B, 0, none⟩) 6 (l6.map Ev.cells) ∧ RgR w3 pa pc P ∧ P.map (·.2.1) = [[0, 1]]) := ⟨bthen h2.out.1 hb3, h2.out.2.later hb3, hP3, hm3⟩); clear hm3 hP3 hb3)
    | (refine wpList_buildSlice rfl 29 3 2 _ rfl #[.int .i64 0, .int .i64 1] iN _ Try.underlying29 hiN.out hzN.out (by rw [hsN.out]; omega) (by rw [hsN.out]; omega) (by simp only [hsN.out]; kernel_rfl) ?_)
    | (go_at_call 18; (have hbx : Hid (Below w3.heap.size w3 (w3.alloc (.cells #[.int .i64 0, .int .i64 1] 3)) ∧ Rows (w3.alloc (.cells #[.int .i64 0, .int .i64 1] 3)) 1 (some ⟨w3.heap.size, 0, none⟩) 2 (([0, 1] : List Int).map chCells)) := ⟨boxed _ _, rows_intsG (L := [0, 1]) (heap_new_q w3 _) (by decide)⟩); (refine (guarded6 (h3.out.2.1.later hbx.out.1) hbx.out.2).mono ?_); rintro e w4 ⟨rfl, hb4⟩; (have h4 : Hid (Below w.heap.size w w4 ∧ Rows w4 26 (some ⟨B, 0, none⟩) 6 (l6.map Ev.cells) ∧ RgR w4 pa pc P ∧ P.map (·.2.1) = [[0, 1]]) := ⟨bthen h3.out.1 (bthen hbx.out.1 hb4), h3.out.2.1.later (bthen hbx.out.1 hb4), h3.out.2.2.1.later (bthen hbx.out.1 hb4), h3.out.2.2.2⟩); clear hb4)
    | (go_at_call 10; (refine (held6 h4.out.2.1).mono ?_); rintro e w5 ⟨ga, gc, rfl, hr5, hb5⟩; (have h5 : Hid (Below w.heap.size w w5 ∧ Rows w5 1 ga gc (([1] : List Int).map chCells) ∧ RgR w5 pa pc P ∧ P.map (·.2.1) = [[0, 1]]) := ⟨bthen h4.out.1 hb5, hr5, h4.out.2.2.1.later hb5, h4.out.2.2.2⟩); clear hb5 hr5))
  clear h2 h3 h4
  go_wp2_with (first
    | ((with_reducible refine at_bslG 29 2 _ rfl ?_); refine stopG_out ?_; refine wpList_buildSliceW rfl 29 3 2 _ rfl #[.int .i64 0, .int .i64 1] iN _ Try.underlying29 hiN.out hzN.out (by rw [hsN.out]; omega) (by rw [hsN.out]; omega) (by simp only [hsN.out]; kernel_rfl) ?_)
    | ((with_reducible refine at_bslG 39 1 _ rfl ?_); refine stopG_out ?_; refine wpList_buildSliceW rfl 39 29 1 _ rfl #[.slice (some ⟨w5.heap.size, 0, none⟩) 2 2] iS _ Try.underlying39 hiS.out hzS.out (by rw [hsS.out]; omega) (by rw [hsS.out]; omega) (by simp only [hsS.out]; kernel_rfl) ?_)
    | (go_at_call 20; (with_reducible refine (same6 h5.out.2.2.1 h5.out.2.2.2).mono ?_); rintro e w7 ⟨rfl, hb7⟩; (have h7 : Hid (Below w.heap.size w w7 ∧ Rows w7 1 ga gc (([1] : List Int).map chCells)) := ⟨bthen h5.out.1 hb7, h5.out.2.1.later hb7⟩); clear hb7)
    | ((with_reducible refine at_bslG 29 1 _ rfl ?_); refine stopG_out ?_; refine wpList_buildSliceW rfl 29 3 1 _ rfl #[.int .i64 1] iN _ Try.underlying29 hiN.out hzN.out (by rw [hsN.out]; omega) (by rw [hsN.out]; omega) (by simp only [hsN.out]; kernel_rfl) ?_)
    | (go_at_call 13; (have hb9 : Hid (Below w7.heap.size w7 (w7.alloc (.cells #[.int .i64 1] 3))) := boxed _ _); (refine (sameInts_u [1] ga (some ⟨w7.heap.size, 0, none⟩) gc 1 _ (h7.out.2.later hb9.out) (rows_intsG (L := [1]) (heap_new_q w7 _) (by decide))).mono ?_); rintro e w9 ⟨rfl, hbb⟩; (have h9 : Hid (Below w.heap.size w w9) := bthen h7.out.1 (bthen hb9.out hbb)); clear hbb))
  go_ret
  exact ⟨rfl, h9.out⟩
end
end Go.Proofs.Ytdfnmlcpimiboaa.pg
/- GoodlockEdges and GoodlockRings, walked. -/
namespace Go.Proofs.Ytdfnmlcpimiboaa.pg
open Go.ChangeShapes Go.WideShapes Go.ChangeAt Go.RowKit Go.Shelf
set_option linter.unusedVariables false
set_option linter.unusedSimpArgs false
set_option maxRecDepth 100000
attribute [local go_sem ↓] Go.wp_at_zero Go.wp_at_succ
/-- A list of events in memory, no greater than memory. -/
def EvsZ (w : World) (b : Option Addr) (c : Nat) (l : List Ev) : Prop := EvsIn w b c l ∧ l.length * 208 ≤ reachBytes
section
variable {H : Type} {enc : TypeId × Value → H} {w : World} {base : Nat} {spare : Nat → Bool} {held : Bool}
theorem evs_zz {n : Nat} {a : Option Addr} {len cap : Nat} {y : DataW H × List MemPlace} (h : DataW.trod enc Try.prog w base spare held n 22 [.slice a len cap] = some y) (hs : Sz Try.prog 22 y.1) : ∃ l : List Ev, l.length = len ∧ EvsZ w a cap l := by
  obtain ⟨l, rfl, h1, h2, h3⟩ := rows_sz (k := 26) ev0 Ev.cells Ev.wf Try.underlying22 (by kernel_rfl) (by omega) (fun n cs y hl h _ => ev_in hl h) h hs
  have hb : Try.prog.bytesOf 55 = 208 := by kernel_rfl
  rw [hb] at h3
  exact ⟨l, rfl, ⟨h1, h2⟩, h3⟩
end
theorem evs_rowsG (l : List Ev) : (∀ row ∈ l.map Ev.cells, row.length = 26) ∧ ∀ row ∈ l.map Ev.cells, ∀ u ∈ row, u.oneCell' = true := by
  refine ⟨fun row hr => ?_, fun row hr u hu => ?_⟩
  · obtain ⟨x, _, rfl⟩ := List.mem_map.mp hr; rfl
  · obtain ⟨x, _, rfl⟩ := List.mem_map.mp hr
    have := ev_one x
    rw [Array.all_eq_true_iff_forall_mem] at this
    exact this u (by simpa using hu)
set_option maxHeartbeats 4000000 in
theorem edges_row (l : List Ev) (la : Option Addr) (lc : Nat) (i : Int) (w : World) (hz : EvsZ w la lc l) (_ : (Lit.int .i64 i).wf = true) : Calls Try.prog 3 #[.slice la l.length lc, .int .i64 i] w fun e w' => e = .returned (.bool true) ∧ Below w.heap.size w w' := by
  obtain ⟨c, hc⟩ := check_ex l
  obtain ⟨iE, hiE, hzE, hsE, hbE⟩ := info_q infoEvG
  have hlen : Hid ((l.map Ev.cells).length = l.length) := by show _ = _; simp
  have hN : Hid (Rows w 26 la lc (l.map Ev.cells) ∧ l.length ≤ maxLen ∧ l.length * 208 ≤ 140737488355328) := by
    have h1 := rows_len hz.1.1
    have h2 := hz.2
    unfold reachBytes at h2
    refine ⟨hz.1.1, by unfold maxLen; omega, by omega⟩
  have hk : Hid ((∀ row ∈ l.map Ev.cells, row.length = 26) ∧ ∀ row ∈ l.map Ev.cells, ∀ u ∈ row, u.oneCell' = true) := evs_rowsG l
  have hiH : Hid (Try.prog.info? 55 = some iE ∧ iE.zero = some (.agg evZG.cells.toArray) ∧ iE.size = 26 ∧ iE.bytes = 208) := ⟨hiE, hzE, hsE, hbE⟩
  have c1 : ∀ wx xa xc, Rows wx 26 xa xc (l.map Ev.cells) → Calls Try.prog 8 #[.slice xa l.length xc] wx _ := fun wx xa xc q => gEdges_any q c hc
  have c2 : ∀ wx xa xc, Rows wx 26 xa xc (l.map Ev.cells) → Calls Try.prog 9 #[.slice xa l.length xc] wx _ := fun wx xa xc q => rEdges_any q c hc
  have c3 : ∀ wx xa xc, Rows wx 26 xa xc (l.map Ev.cells) → Calls Try.prog 10 #[.slice xa l.length xc, .int .i64 i] wx _ := fun wx xa xc q => gHeld_any q i c hc
  have c4 : ∀ wx xa xc, Rows wx 26 xa xc (l.map Ev.cells) → Calls Try.prog 11 #[.slice xa l.length xc, .int .i64 i] wx _ := fun wx xa xc q => rHeld_any q i c hc
  have c7 : ∀ wx a b ca cb, Rows wx 26 a ca (l.map Ev.cells) → Rows wx 26 b cb (l.map Ev.cells) → Calls Try.prog 14 #[.slice a l.length ca, .slice b l.length cb] wx _ := fun wx a b ca cb h1 h2 => sameEvs_any l hz.1.2 h1 h2
  have cS : ∀ wx, Calls Try.prog 15 #[] wx _ := fun wx => smallG_any wx
  generalize edgR l c = p at *
  generalize hldR l i c = q at *
  have e1 : (p.2 == p.2) = true := by simp
  have e2 : (q.2 == q.2) = true := by simp
  have c5 : ∀ wx a b ca cb, Rows wx 4 a ca (p.1.map Ed.cells) → Rows wx 4 b cb (p.1.map Ed.cells) → Calls Try.prog 12 #[.slice a p.1.length ca, .slice b p.1.length cb] wx _ := fun wx a b ca cb h1 h2 => sameEdges_any p.1 h1 h2
  have c6 : ∀ wx a b ca cb, Rows wx 1 a ca ((asZ q.1).map chCells) → Rows wx 1 b cb ((asZ q.1).map chCells) → Calls Try.prog 13 #[.slice a q.1.length ca, .slice b q.1.length cb] wx fun e w' => e = .returned (.bool true) ∧ Below wx.heap.size wx w' := fun wx a b ca cb h1 h2 => by
    have h := sameInts_u (asZ q.1) a b ca cb wx h1 h2
    rw [show (asZ q.1).length = q.1.length by simp [asZ]] at h
    exact h
  clear hz hc hiE hzE hsE hbE
  go_enter Try.func3, Try.ntmps3
  go_wp2_with (first
    | (at_builtin; (refine wpList_app rfl (.tmp 14) (.tmp 15) 22 rfl w.heap.size 55 iE _ 26 208 Try.underlying22 hiH.out.1 hiH.out.2.1 hiH.out.2.2.1 hiH.out.2.2.2 rfl (by decide) none 0 [] rfl (own_nil_q _ _ _ _) la lc (l.map Ev.cells) (by rw [hlen.out]; rfl) hN.out.1 hk.out.1 hk.out.2 (by rw [hlen.out]; simpa using hN.out.2.1) (by rw [hlen.out]; simpa using hN.out.2.2) (Nat.le_refl _) ?_); intro va vc w2 h1 h2 h3 h4; (have k2 : Hid (Rows w2 26 va vc (l.map Ev.cells) ∧ Rows w2 26 la lc (l.map Ev.cells) ∧ Below w.heap.size w w2) := ⟨own_rows h1 hk.out.1, hN.out.1.later (h3.mono (by omega)), h3.mono (by omega)⟩); rw [List.nil_append, hlen.out]; clear h1 h2 h3 h4)
    | (go_at_call 8; (with_reducible refine (c1 _ _ _ k2.out.1).mono ?_); rintro e w3 ⟨pa, pc, rfl, hr, hb⟩; (have k3 : Hid (Rows w3 26 va vc (l.map Ev.cells) ∧ Rows w3 26 la lc (l.map Ev.cells) ∧ Below w.heap.size w w3 ∧ Rows w3 4 pa pc (p.1.map Ed.cells)) := ⟨k2.out.1.later hb, k2.out.2.1.later hb, bthen k2.out.2.2 hb, hr⟩); clear hr hb c1 k2)
    | (go_at_call 9; (with_reducible refine (c2 _ _ _ k3.out.2.1).mono ?_); rintro e w4 ⟨qa, qc, rfl, hr, hb⟩; (have k4 : Hid (Rows w4 26 va vc (l.map Ev.cells) ∧ Rows w4 26 la lc (l.map Ev.cells) ∧ Below w.heap.size w w4 ∧ Rows w4 4 pa pc (p.1.map Ed.cells) ∧ Rows w4 4 qa qc (p.1.map Ed.cells)) := ⟨k3.out.1.later hb, k3.out.2.1.later hb, bthen k3.out.2.2.1 hb, k3.out.2.2.2.later hb, hr⟩); clear hr hb c2 k3)
    | (go_at_call 10; (with_reducible refine (c3 _ _ _ k4.out.1).mono ?_); rintro e w5 ⟨ga, gc, rfl, hr, hb⟩; (have k5 : Hid (Rows w5 26 va vc (l.map Ev.cells) ∧ Rows w5 26 la lc (l.map Ev.cells) ∧ Below w.heap.size w w5 ∧ Rows w5 4 pa pc (p.1.map Ed.cells) ∧ Rows w5 4 qa qc (p.1.map Ed.cells) ∧ Rows w5 1 ga gc ((asZ q.1).map chCells)) := ⟨k4.out.1.later hb, k4.out.2.1.later hb, bthen k4.out.2.2.1 hb, k4.out.2.2.2.1.later hb, k4.out.2.2.2.2.later hb, hr⟩); clear hr hb c3 k4)
    | (go_at_call 11; (with_reducible refine (c4 _ _ _ k5.out.2.1).mono ?_); rintro e w6 ⟨fa, fc, rfl, hr, hb⟩; (have k6 : Hid (Rows w6 26 va vc (l.map Ev.cells) ∧ Rows w6 26 la lc (l.map Ev.cells) ∧ Below w.heap.size w w6 ∧ Rows w6 4 pa pc (p.1.map Ed.cells) ∧ Rows w6 4 qa qc (p.1.map Ed.cells) ∧ Rows w6 1 ga gc ((asZ q.1).map chCells) ∧ Rows w6 1 fa fc ((asZ q.1).map chCells)) := ⟨k5.out.1.later hb, k5.out.2.1.later hb, bthen k5.out.2.2.1 hb, k5.out.2.2.2.1.later hb, k5.out.2.2.2.2.1.later hb, k5.out.2.2.2.2.2.later hb, hr⟩); clear hr hb c4 k5)
    | (go_at_call 12; (with_reducible refine (c5 _ _ _ _ _ k6.out.2.2.2.1 k6.out.2.2.2.2.1).mono ?_); rintro e w7 ⟨rfl, hb⟩; (have k7 : Hid (Rows w7 26 va vc (l.map Ev.cells) ∧ Rows w7 26 la lc (l.map Ev.cells) ∧ Below w.heap.size w w7 ∧ Rows w7 1 ga gc ((asZ q.1).map chCells) ∧ Rows w7 1 fa fc ((asZ q.1).map chCells)) := ⟨k6.out.1.later hb, k6.out.2.1.later hb, bthen k6.out.2.2.1 hb, k6.out.2.2.2.2.2.1.later hb, k6.out.2.2.2.2.2.2.later hb⟩); clear hb c5 k6)
    | (go_at_call 13; (with_reducible refine (c6 _ _ _ _ _ k7.out.2.2.2.1 k7.out.2.2.2.2).mono ?_); rintro e w8 ⟨rfl, hb⟩; (have k8 : Hid (Rows w8 26 va vc (l.map Ev.cells) ∧ Rows w8 26 la lc (l.map Ev.cells) ∧ Below w.heap.size w w8) := ⟨k7.out.1.later hb, k7.out.2.1.later hb, bthen k7.out.2.2.1 hb⟩); clear hb c6 k7)
    | (go_at_call 14; (with_reducible refine (c7 _ _ _ _ _ k8.out.1 k8.out.2.1).mono ?_); rintro e w9 ⟨rfl, hb⟩; (have k9 : Hid (Below w.heap.size w w9) := bthen k8.out.2.2 hb); clear hb c7 k8)
    | (go_at_call 15; (with_reducible refine (cS _).mono ?_); rintro e wA ⟨rfl, hb⟩; (have kA : Hid (Below w.heap.size w wA) := bthen k9.out hb); clear hb cS))
  go_ret
  exact ⟨rfl, kA.out⟩
end Go.Proofs.Ytdfnmlcpimiboaa.pg
