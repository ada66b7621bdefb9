/- The statements' own event. -/
import Derived.Test.YtkhhkgfaakgdfaaM30
import Derived.Test.YtkhhkgfaakgdfaaM25
namespace Go.Proofs.Ytkhhkgfaakgdfaa.pg
open Go.ChangeShapes Go.WideShapes Go.ChangeAt Go.RowKit Go.Shelf
set_option linter.unusedVariables false
set_option linter.unusedSimpArgs false
set_option maxRecDepth 100000
attribute [local go_sem ↓] Go.wp_at_zero Go.wp_at_succ
def stEv (g v : Int) : Ev := ⟨g, 0, 0, 51, 0, 0, 0, ⟨1, v, true⟩, ⟨5, g, true⟩, acc0, acc0, acc0, acc0, 2⟩
def stEv0 (g : Int) : Ev := ⟨g, 0, 0, 51, 0, 0, 0, acc0, acc0, acc0, acc0, acc0, acc0, 2⟩
def stEvZ : Ev := ⟨0, 0, 0, 0, 0, 0, 0, acc0, acc0, acc0, acc0, acc0, acc0, 0⟩
def stEv1 (g v : Int) : Ev := ⟨g, 0, 0, 51, 0, 0, 0, ⟨1, v, true⟩, acc0, acc0, acc0, acc0, acc0, 2⟩
theorem put3 {W : World} {B o : Nat} {cs : Array Value} {t : TypeId} (h : W.heap[B]? = some (.cells cs t (0, 0))) (ho : o + 2 < cs.size) (a b c : Value) :
    W.there B o 3 ∧ (W.setCells B o [a, b, c]).heap[B]? = some (.cells (((cs.setIfInBounds o a).setIfInBounds (o + 1) b).setIfInBounds (o + 2) c) t (0, 0)) ∧ (∀ k, k ≠ B → (W.setCells B o [a, b, c]).heap[k]? = W.heap[k]?) ∧ ∀ n, n ≤ B → Below n W (W.setCells B o [a, b, c]) := by
  have e1 : W.setCells B o [a, b, c] = W.setRow B (((cs.setIfInBounds o a).setIfInBounds (o + 1) b).setIfInBounds (o + 2) c) := by
    simp only [World.setCells]
    rw [setCell_eq_setRow W B o _ _ _ a h]
    have h1 := setRow_heap W B _ (cs.setIfInBounds o a) _ _ h
    rw [setCell_eq_setRow _ B (o + 1) _ _ _ b h1, setRow_setRow]
    have h2 := setRow_heap W B _ ((cs.setIfInBounds o a).setIfInBounds (o + 1) b) _ _ h
    rw [setCell_eq_setRow _ B (o + 1 + 1) _ _ _ c h2, setRow_setRow]
  refine ⟨fun j hj => ⟨?_, frozen_of_row _ _ _ _ _ h⟩, ?_, ?_, ?_⟩
  · rw [cell_of_row W B (o + j) _ _ _ h, Array.getElem?_eq_getElem (by omega)]
    rfl
  · rw [e1]; exact setRow_heap W B _ _ _ _ h
  · intro k hk
    rw [e1]
    exact setRow_other _ _ _ _ hk
  · intro n hn
    rw [e1]
    exact below_setRow (Below.refl _ _) hn _
theorem infoE_ev (x : Ev) : (Try.prog.info? 66).map (·.size) = some x.cells.toArray.size := infoE26
set_option maxHeartbeats 1000000 in
theorem stored_any (g v : Int) (w : World) : Calls Try.prog 48 #[.int .i64 g, .int .i64 v] w fun e w' => e = .returned (.agg (stEv g v).cells.toArray) ∧ Below w.heap.size w w' := by
  have huE : Hid (Try.prog.underlying 66 = _) := Try.underlying66
  obtain ⟨Z, hz, hZs, _⟩ := zero_big (P := Try.prog) (t := 66) (n := 26) (by kernel_rfl)
  have hb := boxed2 w (.cells Z 66) (.cells Z 66)
  have hZ00 : ((w.alloc (.cells Z 66)).alloc (.cells Z 66)).heap[w.heap.size]? = some (.cells Z 66) := (Below.heap_alloc _ _ _ (by simp [World.size_alloc])).trans (heap_alloc_new w _)
  have hB00 : ((w.alloc (.cells Z 66)).alloc (.cells Z 66)).heap[w.heap.size + 1]? = some (.cells Z 66) := by
    have := heap_alloc_new (w.alloc (.cells Z 66)) (.cells Z 66)
    rwa [World.size_alloc] at this
  have hS : Z.size = (stEv0 g).cells.toArray.size := hZs
  have hSz : Z.size = (stEv g v).cells.toArray.size := hZs
  go_enter Try.func48, Try.ntmps48
  obtain ⟨W0, hW0⟩ : ∃ W0, (w.alloc (.cells Z 66)).alloc (.cells Z 66) = W0 := ⟨_, rfl⟩
  rw [hW0] at hb hZ00 hB00
  have hB0 := setRow_heap W0 (w.heap.size + 1) _ (stEv0 g).cells.toArray _ _ hB00
  have hZ0 := (setRow_other W0 (w.heap.size + 1) w.heap.size (stEv0 g).cells.toArray (by omega)).trans hZ00
  have hb0 := below_setRow hb (B := w.heap.size + 1) (by omega) (stEv0 g).cells.toArray
  obtain ⟨W1, hW1⟩ : ∃ W1, W0.setRow (w.heap.size + 1) (stEv0 g).cells.toArray = W1 := ⟨_, rfl⟩
  rw [hW1] at hB0 hZ0 hb0
  obtain ⟨t1, B1, o1, b1⟩ := put3 (o := 7) hB0 (by show 9 < 26; omega) (.int .i64 1) (.int .i64 v) (.bool true)
  have B1' : (W1.setCells (w.heap.size + 1) 7 [.int .i64 1, .int .i64 v, .bool true]).heap[w.heap.size + 1]? = some (.cells (stEv1 g v).cells.toArray 66) := B1
  have Z1 := (o1 w.heap.size (by omega)).trans hZ0
  have bb1 := hb0.trans (b1 w.heap.size (by omega))
  obtain ⟨W2, hW2⟩ : ∃ W2, W1.setCells (w.heap.size + 1) 7 [.int .i64 1, .int .i64 v, .bool true] = W2 := ⟨_, rfl⟩
  rw [hW2] at B1' Z1 bb1
  obtain ⟨t2, B2, o2, b2⟩ := put3 (o := 10) B1' (by show 12 < 26; omega) (.int .i64 5) (.int .i64 g) (.bool true)
  have B2' : (W2.setCells (w.heap.size + 1) 10 [.int .i64 5, .int .i64 g, .bool true]).heap[w.heap.size + 1]? = some (.cells (stEv g v).cells.toArray 66) := B2
  have Z2 := (o2 w.heap.size (by omega)).trans Z1
  have bb2 := bb1.trans (b2 w.heap.size (by omega))
  obtain ⟨W3, hW3⟩ : ∃ W3, W2.setCells (w.heap.size + 1) 10 [.int .i64 5, .int .i64 g, .bool true] = W3 := ⟨_, rfl⟩
  rw [hW3] at B2' Z2 bb2
  have hall : Hid (W1.there (w.heap.size + 1) 7 3 ∧ W2.there (w.heap.size + 1) 10 3 ∧ W3.heap[w.heap.size + 1]? = some (.cells (stEv g v).cells.toArray 66) ∧ W3.heap[w.heap.size]? = some (.cells Z 66) ∧ Below w.heap.size w W3) := ⟨t1, t2, B2', Z2, bb2⟩
  have hW0H : Hid ((w.alloc (.cells Z 66)).alloc (.cells Z 66) = W0) := hW0
  have hB0H : Hid (W0.heap[w.heap.size + 1]? = some (.cells Z 66)) := hB00
  have hW1H : Hid (W0.setRow (w.heap.size + 1) (stEv0 g).cells.toArray = W1) := hW1
  have hW2H : Hid (W1.setCells (w.heap.size + 1) 7 [.int .i64 1, .int .i64 v, .bool true] = W2) := hW2
  have hW3H : Hid (W2.setCells (w.heap.size + 1) 10 [.int .i64 5, .int .i64 g, .bool true] = W3) := hW3
  have hzH : Hid (∀ w, (zeroValue 66).run Try.prog w = .ok (.agg Z) w) := hz
  have hSH : Hid (Z.size = (stEv0 g).cells.toArray.size ∧ Z.size = (stEv g v).cells.toArray.size) := ⟨hS, hSz⟩
  clear hW0 hW1 hW2 hW3 t1 t2 B1 B1' B2 B2' Z1 Z2 bb1 bb2 o1 o2 b1 b2 hb hb0 hZ0 hB0 hZ00 hB00 hz hS hSz hZs
  go_wp2_with (first
    | (refine wpList_alloc_big rfl 66 rfl hzH.out ?_; (try rw [World.size_alloc]); (try rw [hW0H.out]))
    | (refine wpList_store_row rfl 66 _ _ rfl (w.heap.size + 1) (stEv0 g).cells.toArray rfl rfl _ _ hB0H.out (infoE_ev (stEv0 g)) hSH.out.1 (ev_one (stEv0 g)) ?_; rw [hW1H.out])
    | (refine wpList_store_mid rfl 63 _ _ rfl (w.heap.size + 1) 7 #[.int .i64 1, .int .i64 v, .bool true] rfl rfl hall.out.1 (by kernel_rfl) (by simp [Value.oneCell']) ?_; rw [show W1.setCells (w.heap.size + 1) 7 _ = W2 from hW2H.out])
    | (refine wpList_store_mid rfl 63 _ _ rfl (w.heap.size + 1) 10 #[.int .i64 5, .int .i64 g, .bool true] rfl rfl hall.out.2.1 (by kernel_rfl) (by simp [Value.oneCell']) ?_; rw [show W2.setCells (w.heap.size + 1) 10 _ = W3 from hW3H.out])
    | (refine wpList_load_row rfl 66 _ rfl (w.heap.size + 1) rfl _ _ _ _ hall.out.2.2.1 huE.out rfl (infoE_ev _) ?_)
    | (refine wpList_store_row rfl 66 _ _ rfl w.heap.size (stEv g v).cells.toArray rfl rfl _ _ hall.out.2.2.2.1 (infoE_ev (stEv g v)) hSH.out.2 (ev_one (stEv g v)) ?_))
  refine bodyPost_ret (results_cell_row Try.results48 _ _ w.heap.size 66 _ (0, 0) _ rfl (setRow_heap W3 w.heap.size _ _ _ _ hall.out.2.2.2.1) huE.out rfl (infoE_ev (stEv g v))) rfl ⟨rfl, below_setRow hall.out.2.2.2.2 (Nat.le_refl _) _⟩
end Go.Proofs.Ytkhhkgfaakgdfaa.pg
/- The chapter's first example. -/
namespace Go.Proofs.Ytkhhkgfaakgdfaa.pg
open Go.ChangeShapes Go.WideShapes Go.ChangeAt Go.RowKit Go.Shelf
set_option linter.unusedVariables false
set_option linter.unusedSimpArgs false
set_option maxRecDepth 100000
attribute [local go_sem ↓] Go.wp_at_zero Go.wp_at_succ
def ex3 : List Ev := [stEv 0 0, stEv 1 1, stEv 0 1]
theorem rows_flat {W : World} {B : Nat} {L : List Ev} {t : TypeId} (h : W.heap[B]? = some (.cells (L.map Ev.cells).flatten.toArray t (0, 0))) (hl : L.length ≤ 256) : Rows W 26 (some ⟨B, 0, none⟩) L.length (L.map Ev.cells) := by
  have hk : ∀ row ∈ L.map Ev.cells, row.length = 26 := fun row hm => by rw [List.mem_map] at hm; obtain ⟨y, _, rfl⟩ := hm; rfl
  refine ⟨by simp, by omega, by simp, .inr ⟨B, 0, rfl, (Array.getElem?_eq_some_iff.mp h).1, fun i row hi => ⟨hk row (List.mem_of_getElem? hi), fun j u hj => ?_⟩⟩⟩
  rw [Nat.zero_add, cell_of_row W B _ _ _ _ h]
  have hj26 : j < 26 := by have := (List.getElem?_eq_some_iff.mp hj).1; have := hk row (List.mem_of_getElem? hi); omega
  have := flatten_at (k := 26) (L.map Ev.cells) hk i row hi j hj26
  rw [hj] at this
  simpa using this
theorem rel3 : (rel (evf ex3) 3).2 = [(1, 2), (0, 2)] := by decide
theorem bef3 : befK (rel (evf ex3) 3).1 ex3 0 1 = false := by decide
theorem hf3 : (hfold 3 (rel (evf ex3) 3).2).2 = 2 := by rw [rel3]; decide
theorem stEv_right (g v : Int) (h0 : 0 ≤ g) (h1 : g < 6) (h2 : 0 ≤ v) (h3 : v < manyP 1) : rightP (stEv g v) := by
  have ht : tN (stEv g v).n = 2 := by show tN 2 = 2; decide
  refine ⟨⟨h0, h1, by show (1 : Int) ≤ 2; omega, by show (2 : Int) ≤ 6; omega⟩, fun i hi => ?_, ?_, ?_⟩
  · rw [ht] at hi
    match i, hi with
    | 0, _ =>
      intro a ha
      have : a = ⟨1, v, true⟩ := by simpa [stEv, Ev.list] using ha.symm
      subst this
      exact ⟨⟨h2, h3⟩, fun q => by omega⟩
    | 1, _ =>
      intro a ha
      have : a = ⟨5, g, true⟩ := by simpa [stEv, Ev.list] using ha.symm
      subst this
      have hm5 : g < manyP 5 := by rw [show manyP 5 = 6 by decide]; exact h1
      refine ⟨⟨h0, hm5⟩, fun _ b hb => ?_⟩
      have : b = ⟨1, v, true⟩ := by simpa [stEv, Ev.list] using hb.symm
      subst this
      simp [bef]
  · rw [ht]
    intro a ha
    simp [stEv, Ev.list] at ha
    exact ha
  · unfold Ev.of
    rw [ht]
    simp [stEv, Ev.list]
theorem right3 : ∀ x ∈ ex3, rightP x := by
  intro x hx
  simp [ex3] at hx
  rcases hx with rfl | rfl | rfl
  · exact stEv_right 0 0 (by omega) (by omega) (by omega) (by decide)
  · exact stEv_right 1 1 (by omega) (by omega) (by omega) (by decide)
  · exact stEv_right 0 1 (by omega) (by omega) (by omega) (by decide)
theorem sorted3 {D : List (Nat × Nat)} (hp : D.Perm [(1, 2), (0, 2)]) (hs : D.Pairwise lex) : D = [(0, 2), (1, 2)] := by
  have hl := hp.length_eq
  match D, hl with
  | [a, b], _ =>
    have ha : a ∈ [((1 : Nat), (2 : Nat)), (0, 2)] := hp.mem_iff.mp (by simp)
    have h1 : ((1 : Nat), (2 : Nat)) ∈ [a, b] := hp.mem_iff.mpr (by simp)
    have h0 : ((0 : Nat), (2 : Nat)) ∈ [a, b] := hp.mem_iff.mpr (by simp)
    have hab : lex a b := by simp at hs; exact hs
    simp at ha h1 h0
    rcases ha with rfl | rfl
    · simp at h0
      subst h0
      simp [lex] at hab
    · simp at h1
      subst h1
      rfl
theorem eq2_02 : ∀ wx, (binOp .eql 41 (.agg #[.int .i64 0, .int .i64 2]) (.agg #[.int .i64 0, .int .i64 2])).run Try.prog wx = .ok (.bool true) wx := fun _ => by kernel_rfl
theorem eq2_12 : ∀ wx, (binOp .eql 41 (.agg #[.int .i64 1, .int .i64 2]) (.agg #[.int .i64 1, .int .i64 2])).run Try.prog wx = .ok (.bool true) wx := fun _ => by kernel_rfl
/-- Edges of the example. -/
theorem edges3 (a : Option Addr) (w : World) (h : Rows w 26 a 3 (ex3.map Ev.cells)) : Calls Try.prog 12 #[.slice a 3 3] w fun e w' => ∃ da dc, e = .returned (.tuple #[.slice da 2 dc, .int .i64 0]) ∧ Rows w' 2 da dc ([(0, 2), (1, 2)].map edg) ∧ Below w.heap.size w w' :=
  (edges_ok ex3 a 3 w h (by decide) right3).mono fun e w' ⟨da, dc, D, he, hp, hs, hr, hb⟩ => by
    have hD := sorted3 (by rw [← rel3]; exact hp) hs
    subst hD
    exact ⟨da, dc, he, hr, hb⟩
theorem before3 (a : Option Addr) (w : World) (h : Rows w 26 a 3 (ex3.map Ev.cells)) : Calls Try.prog 22 #[.slice a 3 3, .int .i64 0, .int .i64 1] w fun e w' => e = .returned (.tuple #[.bool false, .int .i64 0]) ∧ Below w.heap.size w w' :=
  before_ok ex3 a 3 0 1 w h (by decide) right3 (by decide) (by decide) false bef3.symm
theorem height3 (a : Option Addr) (w : World) (h : Rows w 26 a 3 (ex3.map Ev.cells)) : Calls Try.prog 14 #[.slice a 3 3] w fun e w' => e = .returned (.tuple #[.int .i64 2, .int .i64 0]) ∧ Below w.heap.size w w' :=
  (height_ok ex3 a 3 w h (by decide) right3).mono fun e w' ⟨he, hb⟩ => ⟨by rw [he]; show _ = Ending.returned (.tuple #[.int .i64 2, .int .i64 0]); rw [← hf3]; rfl, hb⟩
theorem infoP2 : (Try.prog.info? 41).map (·.size) = some 2 := by kernel_rfl
theorem ix3 {w : World} {da : Option Addr} {dc : Nat} (h : Rows w 2 da dc ([(0, 2), (1, 2)].map edg)) : ∃ b0 o0 b1 o1, (∀ wx, (Instr.indexAt 27 (.slice da 2 dc) (.int .i64 0)).run Try.prog wx = .ok (.pointer (some ⟨b0, o0, none⟩)) wx) ∧ (∀ wx, (Instr.indexAt 27 (.slice da 2 dc) (.int .i64 1)).run Try.prog wx = .ok (.pointer (some ⟨b1, o1, none⟩)) wx) ∧ w.rangeAt b0 o0 [.int .i64 0, .int .i64 2] ∧ w.rangeAt b1 o1 [.int .i64 1, .int .i64 2] := by
  obtain ⟨b0, o0, x0, _, r0⟩ := h.ix 27 41 Try.underlying27 (by kernel_rfl) (fun wx => Try.sizeOf41 wx) 0 (row := edg (0, 2)) rfl
  obtain ⟨b1, o1, x1, _, r1⟩ := h.ix 27 41 Try.underlying27 (by kernel_rfl) (fun wx => Try.sizeOf41 wx) 1 (row := edg (1, 2)) rfl
  exact ⟨b0, o0, b1, o1, x0, x1, r0, r1⟩
theorem infoEv : (Try.prog.info? 66).map (fun i => (i.zero, i.size, i.bytes)) = some (some (.agg stEvZ.cells.toArray), 26, 208) := by kernel_rfl
set_option maxHeartbeats 2000000 in
theorem speaks12_any (w : World) : Calls Try.prog 16 #[] w fun e w' => e = .returned (.bool true) ∧ Below w.heap.size w w' := by
  have c0 : ∀ (g v : Int) wx, Calls Try.prog 48 #[.int .i64 g, .int .i64 v] wx _ := fun g v wx => stored_any g v wx
  obtain ⟨iE, hiE, hzE, hsE, hbE⟩ := info_q infoEv
  have hiH : Hid (Try.prog.info? 66 = some iE ∧ iE.zero = some (.agg stEvZ.cells.toArray) ∧ iE.size = 26) := ⟨hiE, hzE, hsE⟩
  have q1 := eq2_02
  have q2 := eq2_12
  have huP : Hid (Try.prog.underlying 41 = _) := Try.underlying41
  clear hiE hzE hsE hbE
  go_enter Try.func16, Try.ntmps16
  go_wp2_with (first
    | (go_at_call 48; (with_reducible refine (c0 _ _ _).mono ?_); rintro e w1 ⟨rfl, hb1⟩; (have hB1 : Hid (Below w.heap.size w w1) := by first | exact bthen hB1.out hb1 | exact hb1); clear hb1)
    | (refine wpList_buildSlice rfl 22 66 3 _ rfl (ex3.map Ev.cells).flatten.toArray iE _ Try.underlying22 hiH.out.1 hiH.out.2.1 (by rw [hiH.out.2.2]; omega) (by rw [hiH.out.2.2]; omega) (by simp only [hiH.out.2.2]; kernel_rfl) ?_)
    | (go_at_call 12; (have hr := rows_flat (L := ex3) (heap_alloc_new w1 (.cells (ex3.map Ev.cells).flatten.toArray 66)) (by decide)); (have hBW := bthen hB1.out (boxed w1 (.cells (ex3.map Ev.cells).flatten.toArray 66))); (refine (edges3 _ _ hr).mono ?_); rintro e w2 ⟨da, dc, rfl, hr2, hb2⟩; (have f2 : Hid (Rows w2 26 (some ⟨w1.heap.size, 0, none⟩) 3 (ex3.map Ev.cells) ∧ Rows w2 2 da dc ([(0, 2), (1, 2)].map edg) ∧ Below w.heap.size w w2) := ⟨hr.later hb2, hr2, bthen hBW hb2⟩); clear hr hBW hr2 hb2 hB1)
    | (go_at_call 22; (refine (before3 _ _ f2.out.1).mono ?_); rintro e w3 ⟨rfl, hb3⟩; (have f3 : Hid (Rows w3 26 (some ⟨w1.heap.size, 0, none⟩) 3 (ex3.map Ev.cells) ∧ Rows w3 2 da dc ([(0, 2), (1, 2)].map edg) ∧ Below w.heap.size w w3) := ⟨f2.out.1.later hb3, f2.out.2.1.later hb3, bthen f2.out.2.2 hb3⟩); clear hb3 f2)
    | (go_at_call 14; (refine (height3 _ _ f3.out.1).mono ?_); rintro e w4 ⟨rfl, hb4⟩; (have f4 : Hid (Below w.heap.size w w4) := bthen f3.out.2.2 hb4); (obtain ⟨b0, o0, b1, o1, x0, x1, r⟩ := ix3 (f3.out.2.1.later hb4)); (have rH : Hid _ := r); clear hb4 f3 r)
    | (refine wpList_load_g rfl 41 _ rfl b0 o0 rfl [.int .i64 0, .int .i64 2] _ rH.out.1 huP.out rfl infoP2 ?_)
    | (refine wpList_load_g rfl 41 _ rfl b1 o1 rfl [.int .i64 1, .int .i64 2] _ rH.out.2 huP.out rfl infoP2 ?_))
  go_ret
  exact ⟨rfl, f4.out⟩
end Go.Proofs.Ytkhhkgfaakgdfaa.pg
