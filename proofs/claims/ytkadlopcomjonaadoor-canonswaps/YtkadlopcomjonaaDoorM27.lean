/- The statements' own event. -/
import Derived.Test.YtkadlopcomjonaaDoorM26
import Derived.Test.YtkadlopcomjonaaDoorM18
import Derived.Test.YtkadlopcomjonaaDoorM23
namespace Go.Proofs.YtkadlopcomjonaaDoor.pg
open Go.ChangeShapes Go.WideShapes Go.ChangeAt Go.RowKit Go.Shelf
set_option linter.unusedVariables false
set_option linter.unusedSimpArgs false
set_option maxRecDepth 100000
attribute [local go_sem ↓] Go.wp_at_zero Go.wp_at_succ
def stEv (g v : Int) : Ev := ⟨g, 0, 0, 51, 0, 0, 0, ⟨1, v, true⟩, ⟨5, g, true⟩, acc0, acc0, acc0, acc0, 2⟩
def stEv0 (g : Int) : Ev := ⟨g, 0, 0, 51, 0, 0, 0, acc0, acc0, acc0, acc0, acc0, acc0, 2⟩
def stEvZ : Ev := ⟨0, 0, 0, 0, 0, 0, 0, acc0, acc0, acc0, acc0, acc0, acc0, 0⟩
def stEv1 (g v : Int) : Ev := ⟨g, 0, 0, 51, 0, 0, 0, ⟨1, v, true⟩, acc0, acc0, acc0, acc0, acc0, 2⟩
theorem put3 {W : World} {B o : Nat} {cs : Array Value} {t : TypeId} (h : W.heap[B]? = some (.cells cs t (0, 0))) (ho : o + 2 < cs.size) (a b c : Value) :
    W.there B o 3 ∧ (W.setCells B o [a, b, c]).heap[B]? = some (.cells (((cs.setIfInBounds o a).setIfInBounds (o + 1) b).setIfInBounds (o + 2) c) t (0, 0)) ∧ (∀ k, k ≠ B → (W.setCells B o [a, b, c]).heap[k]? = W.heap[k]?) ∧ ∀ n, n ≤ B → Below n W (W.setCells B o [a, b, c]) := by
  have e1 : W.setCells B o [a, b, c] = W.setRow B (((cs.setIfInBounds o a).setIfInBounds (o + 1) b).setIfInBounds (o + 2) c) := by
    simp only [World.setCells]
    rw [setCell_eq_setRow W B o _ _ _ a h]
    have h1 := setRow_heap W B _ (cs.setIfInBounds o a) _ _ h
    rw [setCell_eq_setRow _ B (o + 1) _ _ _ b h1, setRow_setRow]
    have h2 := setRow_heap W B _ ((cs.setIfInBounds o a).setIfInBounds (o + 1) b) _ _ h
    rw [setCell_eq_setRow _ B (o + 1 + 1) _ _ _ c h2, setRow_setRow]
  refine ⟨fun j hj => ⟨?_, frozen_of_row _ _ _ _ _ h⟩, ?_, ?_, ?_⟩
  · rw [cell_of_row W B (o + j) _ _ _ h, Array.getElem?_eq_getElem (by omega)]
    rfl
  · rw [e1]; exact setRow_heap W B _ _ _ _ h
  · intro k hk
    rw [e1]
    exact setRow_other _ _ _ _ hk
  · intro n hn
    rw [e1]
    exact below_setRow (Below.refl _ _) hn _
theorem infoE_ev (x : Ev) : (Tryd.prog.info? 42).map (·.size) = some x.cells.toArray.size := infoE26
end Go.Proofs.YtkadlopcomjonaaDoor.pg
/- The chapter's first example. -/
namespace Go.Proofs.YtkadlopcomjonaaDoor.pg
open Go.ChangeShapes Go.WideShapes Go.ChangeAt Go.RowKit Go.Shelf
set_option linter.unusedVariables false
set_option linter.unusedSimpArgs false
set_option maxRecDepth 100000
attribute [local go_sem ↓] Go.wp_at_zero Go.wp_at_succ
def ex3 : List Ev := [stEv 0 0, stEv 1 1, stEv 0 1]
theorem rows_flat {W : World} {B : Nat} {L : List Ev} {t : TypeId} (h : W.heap[B]? = some (.cells (L.map Ev.cells).flatten.toArray t (0, 0))) (hl : L.length ≤ 256) : Rows W 26 (some ⟨B, 0, none⟩) L.length (L.map Ev.cells) := by
  have hk : ∀ row ∈ L.map Ev.cells, row.length = 26 := fun row hm => by rw [List.mem_map] at hm; obtain ⟨y, _, rfl⟩ := hm; rfl
  refine ⟨by simp, by omega, by simp, .inr ⟨B, 0, rfl, (Array.getElem?_eq_some_iff.mp h).1, fun i row hi => ⟨hk row (List.mem_of_getElem? hi), fun j u hj => ?_⟩⟩⟩
  rw [Nat.zero_add, cell_of_row W B _ _ _ _ h]
  have hj26 : j < 26 := by have := (List.getElem?_eq_some_iff.mp hj).1; have := hk row (List.mem_of_getElem? hi); omega
  have := flatten_at (k := 26) (L.map Ev.cells) hk i row hi j hj26
  rw [hj] at this
  simpa using this
theorem rel3 : (rel (evf ex3) 3).2 = [(1, 2), (0, 2)] := by decide
theorem bef3 : befK (rel (evf ex3) 3).1 ex3 0 1 = false := by decide
theorem hf3 : (hfold 3 (rel (evf ex3) 3).2).2 = 2 := by rw [rel3]; decide
theorem stEv_right (g v : Int) (h0 : 0 ≤ g) (h1 : g < 6) (h2 : 0 ≤ v) (h3 : v < manyP 1) : rightP (stEv g v) := by
  have ht : tN (stEv g v).n = 2 := by show tN 2 = 2; decide
  refine ⟨⟨h0, h1, by show (1 : Int) ≤ 2; omega, by show (2 : Int) ≤ 6; omega⟩, fun i hi => ?_, ?_, ?_⟩
  · rw [ht] at hi
    match i, hi with
    | 0, _ =>
      intro a ha
      have : a = ⟨1, v, true⟩ := by simpa [stEv, Ev.list] using ha.symm
      subst this
      exact ⟨⟨h2, h3⟩, fun q => by omega⟩
    | 1, _ =>
      intro a ha
      have : a = ⟨5, g, true⟩ := by simpa [stEv, Ev.list] using ha.symm
      subst this
      have hm5 : g < manyP 5 := by rw [show manyP 5 = 6 by decide]; exact h1
      refine ⟨⟨h0, hm5⟩, fun _ b hb => ?_⟩
      have : b = ⟨1, v, true⟩ := by simpa [stEv, Ev.list] using hb.symm
      subst this
      simp [bef]
  · rw [ht]
    intro a ha
    simp [stEv, Ev.list] at ha
    exact ha
  · unfold Ev.of
    rw [ht]
    simp [stEv, Ev.list]
theorem right3 : ∀ x ∈ ex3, rightP x := by
  intro x hx
  simp [ex3] at hx
  rcases hx with rfl | rfl | rfl
  · exact stEv_right 0 0 (by omega) (by omega) (by omega) (by decide)
  · exact stEv_right 1 1 (by omega) (by omega) (by omega) (by decide)
  · exact stEv_right 0 1 (by omega) (by omega) (by omega) (by decide)
theorem sorted3 {D : List (Nat × Nat)} (hp : D.Perm [(1, 2), (0, 2)]) (hs : D.Pairwise lex) : D = [(0, 2), (1, 2)] := by
  have hl := hp.length_eq
  match D, hl with
  | [a, b], _ =>
    have ha : a ∈ [((1 : Nat), (2 : Nat)), (0, 2)] := hp.mem_iff.mp (by simp)
    have h1 : ((1 : Nat), (2 : Nat)) ∈ [a, b] := hp.mem_iff.mpr (by simp)
    have h0 : ((0 : Nat), (2 : Nat)) ∈ [a, b] := hp.mem_iff.mpr (by simp)
    have hab : lex a b := by simp at hs; exact hs
    simp at ha h1 h0
    rcases ha with rfl | rfl
    · simp at h0
      subst h0
      simp [lex] at hab
    · simp at h1
      subst h1
      rfl
theorem eq2_02 : ∀ wx, (binOp .eql 122 (.agg #[.int .i64 0, .int .i64 2]) (.agg #[.int .i64 0, .int .i64 2])).run Tryd.prog wx = .ok (.bool true) wx := fun _ => by kernel_rfl
theorem eq2_12 : ∀ wx, (binOp .eql 122 (.agg #[.int .i64 1, .int .i64 2]) (.agg #[.int .i64 1, .int .i64 2])).run Tryd.prog wx = .ok (.bool true) wx := fun _ => by kernel_rfl
theorem infoP2 : (Tryd.prog.info? 122).map (·.size) = some 2 := by kernel_rfl
theorem ix3 {w : World} {da : Option Addr} {dc : Nat} (h : Rows w 2 da dc ([(0, 2), (1, 2)].map edg)) : ∃ b0 o0 b1 o1, (∀ wx, (Instr.indexAt 103 (.slice da 2 dc) (.int .i64 0)).run Tryd.prog wx = .ok (.pointer (some ⟨b0, o0, none⟩)) wx) ∧ (∀ wx, (Instr.indexAt 103 (.slice da 2 dc) (.int .i64 1)).run Tryd.prog wx = .ok (.pointer (some ⟨b1, o1, none⟩)) wx) ∧ w.rangeAt b0 o0 [.int .i64 0, .int .i64 2] ∧ w.rangeAt b1 o1 [.int .i64 1, .int .i64 2] := by
  obtain ⟨b0, o0, x0, _, r0⟩ := h.ix 103 122 Tryd.underlying103 (by kernel_rfl) (fun wx => Tryd.sizeOf122 wx) 0 (row := edg (0, 2)) rfl
  obtain ⟨b1, o1, x1, _, r1⟩ := h.ix 103 122 Tryd.underlying103 (by kernel_rfl) (fun wx => Tryd.sizeOf122 wx) 1 (row := edg (1, 2)) rfl
  exact ⟨b0, o0, b1, o1, x0, x1, r0, r1⟩
theorem infoEv : (Tryd.prog.info? 42).map (fun i => (i.zero, i.size, i.bytes)) = some (some (.agg stEvZ.cells.toArray), 26, 208) := by kernel_rfl
end Go.Proofs.YtkadlopcomjonaaDoor.pg
/- The statements' own example: two independent events. -/
namespace Go.Proofs.YtkadlopcomjonaaDoor.pg
open Go.ChangeShapes Go.WideShapes Go.ChangeAt Go.RowKit Go.Shelf
set_option linter.unusedVariables false
set_option linter.unusedSimpArgs false
set_option maxRecDepth 100000
attribute [local go_sem ↓] Go.wp_at_zero Go.wp_at_succ
def yEv (g : Int) : Ev := ⟨g, 0, 0, 64, 0, 0, 0, ⟨5, g, true⟩, acc0, acc0, acc0, acc0, acc0, 1⟩
def yEv0 (g : Int) : Ev := ⟨g, 0, 0, 64, 0, 0, 0, acc0, acc0, acc0, acc0, acc0, acc0, 1⟩
set_option maxHeartbeats 1000000 in
theorem yield_any (g : Int) (w : World) : Calls Tryd.prog 22 #[.int .i64 g] w fun e w' => e = .returned (.agg (yEv g).cells.toArray) ∧ Below w.heap.size w w' := by
  have huE : Hid (Tryd.prog.underlying 42 = _) := Tryd.underlying42
  obtain ⟨Z, hz, hZs, _⟩ := zero_big (P := Tryd.prog) (t := 42) (n := 26) (by kernel_rfl)
  have hb := boxed2 w (.cells Z 42) (.cells Z 42)
  have hZ00 : ((w.alloc (.cells Z 42)).alloc (.cells Z 42)).heap[w.heap.size]? = some (.cells Z 42) := (Below.heap_alloc _ _ _ (by simp [World.size_alloc])).trans (heap_alloc_new w _)
  have hB00 : ((w.alloc (.cells Z 42)).alloc (.cells Z 42)).heap[w.heap.size + 1]? = some (.cells Z 42) := by
    have := heap_alloc_new (w.alloc (.cells Z 42)) (.cells Z 42)
    rwa [World.size_alloc] at this
  have hS : Z.size = (yEv0 g).cells.toArray.size := hZs
  have hSz : Z.size = (yEv g).cells.toArray.size := hZs
  go_enter Tryd.func22, Tryd.ntmps22
  obtain ⟨W0, hW0⟩ : ∃ W0, (w.alloc (.cells Z 42)).alloc (.cells Z 42) = W0 := ⟨_, rfl⟩
  rw [hW0] at hb hZ00 hB00
  have hB0 := setRow_heap W0 (w.heap.size + 1) _ (yEv0 g).cells.toArray _ _ hB00
  have hZ0 := (setRow_other W0 (w.heap.size + 1) w.heap.size (yEv0 g).cells.toArray (by omega)).trans hZ00
  have hb0 := below_setRow hb (B := w.heap.size + 1) (by omega) (yEv0 g).cells.toArray
  obtain ⟨W1, hW1⟩ : ∃ W1, W0.setRow (w.heap.size + 1) (yEv0 g).cells.toArray = W1 := ⟨_, rfl⟩
  rw [hW1] at hB0 hZ0 hb0
  obtain ⟨t1, B1, o1, b1⟩ := put3 (o := 7) hB0 (by show 9 < 26; omega) (.int .i64 5) (.int .i64 g) (.bool true)
  have B1' : (W1.setCells (w.heap.size + 1) 7 [.int .i64 5, .int .i64 g, .bool true]).heap[w.heap.size + 1]? = some (.cells (yEv g).cells.toArray 42) := B1
  have Z1 := (o1 w.heap.size (by omega)).trans hZ0
  have bb1 := hb0.trans (b1 w.heap.size (by omega))
  obtain ⟨W2, hW2⟩ : ∃ W2, W1.setCells (w.heap.size + 1) 7 [.int .i64 5, .int .i64 g, .bool true] = W2 := ⟨_, rfl⟩
  rw [hW2] at B1' Z1 bb1
  have hall : Hid (W1.there (w.heap.size + 1) 7 3 ∧ W2.heap[w.heap.size + 1]? = some (.cells (yEv g).cells.toArray 42) ∧ W2.heap[w.heap.size]? = some (.cells Z 42) ∧ Below w.heap.size w W2) := ⟨t1, B1', Z1, bb1⟩
  have hW0H : Hid ((w.alloc (.cells Z 42)).alloc (.cells Z 42) = W0) := hW0
  have hB0H : Hid (W0.heap[w.heap.size + 1]? = some (.cells Z 42)) := hB00
  have hW1H : Hid (W0.setRow (w.heap.size + 1) (yEv0 g).cells.toArray = W1) := hW1
  have hW2H : Hid (W1.setCells (w.heap.size + 1) 7 [.int .i64 5, .int .i64 g, .bool true] = W2) := hW2
  have hzH : Hid (∀ w, (zeroValue 42).run Tryd.prog w = .ok (.agg Z) w) := hz
  have hSH : Hid (Z.size = (yEv0 g).cells.toArray.size ∧ Z.size = (yEv g).cells.toArray.size) := ⟨hS, hSz⟩
  clear hW0 hW1 hW2 t1 B1 B1' Z1 bb1 o1 b1 hb hb0 hZ0 hB0 hZ00 hB00 hz hS hSz hZs
  go_wp2_with (first
    | (refine wpList_alloc_big rfl 42 rfl hzH.out ?_; (try rw [World.size_alloc]); (try rw [hW0H.out]))
    | (refine wpList_store_row rfl 42 _ _ rfl (w.heap.size + 1) (yEv0 g).cells.toArray rfl rfl _ _ hB0H.out (infoE_ev (yEv0 g)) hSH.out.1 (ev_one (yEv0 g)) ?_; rw [hW1H.out])
    | (refine wpList_store_mid rfl 39 _ _ rfl (w.heap.size + 1) 7 #[.int .i64 5, .int .i64 g, .bool true] rfl rfl hall.out.1 (by kernel_rfl) (by simp [Value.oneCell']) ?_; rw [show W1.setCells (w.heap.size + 1) 7 _ = W2 from hW2H.out])
    | (refine wpList_load_row rfl 42 _ rfl (w.heap.size + 1) rfl _ _ _ _ hall.out.2.1 huE.out rfl (infoE_ev _) ?_)
    | (refine wpList_store_row rfl 42 _ _ rfl w.heap.size (yEv g).cells.toArray rfl rfl _ _ hall.out.2.2.1 (infoE_ev (yEv g)) hSH.out.2 (ev_one (yEv g)) ?_))
  refine bodyPost_ret (results_cell_row Tryd.results22 _ _ w.heap.size 42 _ (0, 0) _ rfl (setRow_heap W2 w.heap.size _ _ _ _ hall.out.2.2.1) huE.out rfl (infoE_ev (yEv g))) rfl ⟨rfl, below_setRow hall.out.2.2.2 (Nat.le_refl _) _⟩
def ex2 : List Ev := [yEv 1, yEv 0]
theorem yEv_right (g : Int) (h0 : 0 ≤ g) (h1 : g < 6) : rightP (yEv g) := by
  have ht : tN (yEv g).n = 1 := by show tN 1 = 1; decide
  refine ⟨⟨h0, h1, by show (1 : Int) ≤ 1; omega, by show (1 : Int) ≤ 6; omega⟩, fun i hi => ?_, ?_, ?_⟩
  · rw [ht] at hi
    match i, hi with
    | 0, _ =>
      intro a ha
      have : a = ⟨5, g, true⟩ := by simpa [yEv, Ev.list] using ha.symm
      subst this
      have hm5 : g < manyP 5 := by rw [show manyP 5 = 6 by decide]; exact h1
      exact ⟨⟨h0, hm5⟩, fun q => by omega⟩
  · rw [ht]
    intro a ha
    simp [yEv, Ev.list] at ha
    exact ha
  · unfold Ev.of
    rw [ht]
    simp [yEv, Ev.list]
theorem right2 : ∀ x ∈ ex2, rightP x := by
  intro x hx
  simp [ex2] at hx
  rcases hx with rfl | rfl
  · exact yEv_right 1 (by omega) (by omega)
  · exact yEv_right 0 (by omega) (by omega)
theorem apart2 : dpf ex2 0 1 = false := by decide
theorem bef2 {B : Nat → Nat → Bool} (hB : Tells (dpf ex2) B) : B 0 1 = false := by
  rw [Bool.eq_false_iff]
  intro h
  obtain ⟨m, hm, hd, _⟩ := ((hB 0 1).mp h).last
  have : m = 0 := by omega
  subst this
  rw [apart2] at hd
  cases hd
theorem free2 {B : Nat → Nat → Bool} (hB : Tells (dpf ex2) B) (S : Nat → Bool) : freeB B S 0 = !S 0 ∧ freeB B S 1 = !S 1 := by
  have h := bef2 hB
  constructor
  · simp [freeB]
  · simp [freeB, List.range_succ, h]
theorem all2 {B : Nat → Nat → Bool} (hB : Tells (dpf ex2) B) : allW B ex2 = 2 := by
  unfold allW
  rw [pw_empty hB right2]
  have h0 := fun S => (free2 hB S).1
  have h1 := fun S => (free2 hB S).2
  show preS B 2 2 (fun _ => false) = 2
  simp [preS, List.range_succ, List.filter, h0, h1, insS]
theorem ord2 {B : Nat → Nat → Bool} (hB : Tells (dpf ex2) B) {L : List Nat} (h : OrdL B (gof ex2) 2 L) (hl : L.length = 2) : L = [1, 0] := by
  match L, hl with
  | [a, b], _ =>
    have ha := h 0 a rfl
    have hb := h 1 b rfl
    have a0 : freeB B (memS []) 1 = true := by rw [(free2 hB _).2]; simp [memS]
    have q := ha.lo 1 (by omega) a0
    have g0 : gof ex2 0 = 1 := by decide
    have g1 : gof ex2 1 = 0 := by decide
    have hl1 := ha.lt
    have : a = 1 := by
      have : a = 0 ∨ a = 1 := by omega
      rcases this with rfl | rfl
      · rw [g0, g1] at q; omega
      · rfl
    subst this
    have hl2 := hb.lt
    have : b = 0 := by
      have : b = 0 ∨ b = 1 := by omega
      rcases this with rfl | rfl
      · rfl
      · have hf := hb.fr
        rw [(free2 hB _).2] at hf
        simp [memS] at hf
    subst this
    rfl
theorem rows_int {W : World} {B : Nat} {L : List Int} {t : TypeId} (h : W.heap[B]? = some (.cells (L.map fun x => Value.int .i64 x).toArray t (0, 0))) (hl : L.length ≤ 256) : Rows W 1 (some ⟨B, 0, none⟩) L.length (L.map chCells) := by
  refine ⟨by simp, by omega, by simp, .inr ⟨B, 0, rfl, (Array.getElem?_eq_some_iff.mp h).1, fun i row hi => ?_⟩⟩
  rw [List.getElem?_map] at hi
  cases hx : L[i]? with
  | none => rw [hx] at hi; cases hi
  | some x =>
    rw [hx] at hi
    cases hi
    refine ⟨rfl, fun j u hj => ?_⟩
    have hj0 : j = 0 := by have := (List.getElem?_eq_some_iff.mp hj).1; simp [chCells] at this; omega
    subst hj0
    cases hj
    rw [cell_of_row W B _ _ _ _ h]
    simp [hx]
theorem fmC_all {n : Nat} {L : List Nat} (h : L.length = n) : fmC n L = (L.map fun x : Nat => (x : Int)).map fun x => Value.int .i64 x := by
  unfold fmC
  rw [h]
  simp
theorem rows_fm {W : World} {A n : Nat} {L : List Nat} {t : TypeId} (h : W.heap[A]? = some (.cells (fmC n L).toArray t (0, 0))) (hn : L.length = n) (hl : n ≤ 256) : Rows W 1 (some ⟨A, 0, none⟩) n ((L.map fun x : Nat => (x : Int)).map chCells) := by
  rw [fmC_all hn] at h
  have := rows_int h (by simp; omega)
  rw [List.length_map, hn] at this
  exact this
theorem form2 (a : Option Addr) (w : World) (h : Rows w 26 a 2 (ex2.map Ev.cells)) : Calls Tryd.prog 21 #[.slice a 2 2] w fun e w' => ∃ A, e = .returned (.tuple #[.slice (some ⟨A, 0, none⟩) 2 2, .int .i64 0]) ∧ Rows w' 1 (some ⟨A, 0, none⟩) 2 ([(1 : Int), 0].map chCells) ∧ Below w.heap.size w w' := by
  obtain ⟨B, hB⟩ := tells_some (dpf ex2)
  refine (form_ok ex2 a 2 w h (by decide) right2 hB).mono fun e w' ⟨L, A, he, hL, hn, _, hA, hb⟩ => ?_
  have := ord2 hB hL hn
  subst this
  exact ⟨A, he, rows_fm hA rfl (by decide), hb⟩
theorem count2 (a : Option Addr) (w : World) (h : Rows w 26 a 2 (ex2.map Ev.cells)) : Calls Tryd.prog 23 #[.slice a 2 2, .int .i64 9] w fun e w' => e = .returned (.tuple #[.int .i64 2, .int .i64 0]) ∧ Below w.heap.size w w' := by
  obtain ⟨B, hB⟩ := tells_some (dpf ex2)
  refine (count_ok ex2 a 2 9 w h (by decide) right2 hB (by omega) (by omega)).mono fun e w' ⟨r, he, hr, hb⟩ => ?_
  rw [all2 hB] at hr
  have : r = 2 := by omega
  subst this
  exact ⟨he, hb⟩
set_option maxHeartbeats 2000000 in
theorem small_any (w : World) : Calls Tryd.prog 10 #[] w fun e w' => e = .returned (.bool true) ∧ Below w.heap.size w w' := by
  have c0 : ∀ (g : Int) wx, Calls Tryd.prog 22 #[.int .i64 g] wx _ := fun g wx => yield_any g wx
  obtain ⟨iE, hiE, hzE, hsE, hbE⟩ := info_q infoEv
  obtain ⟨iN, hiN, hzN, hsN, hbN⟩ := info_q infoN_u
  have hiH : Hid (Tryd.prog.info? 42 = some iE ∧ iE.zero = some (.agg stEvZ.cells.toArray) ∧ iE.size = 26) := ⟨hiE, hzE, hsE⟩
  have hnH : Hid (Tryd.prog.info? 3 = some iN ∧ iN.zero = some (.int .i64 0) ∧ iN.size = 1) := ⟨hiN, hzN, hsN⟩
  clear hiE hzE hsE hbE hiN hzN hsN hbN
  have hB1 : Hid (Below w.heap.size w w) := Below.refl _ _
  go_enter Tryd.func10, Tryd.ntmps10
  go_upto_region 2 with (first
    | (go_at_call 22; (with_reducible refine (c0 _ _).mono ?_); rintro e w1 ⟨rfl, hb1⟩; (have hB1 : Hid (Below w.heap.size w w1) := bthen hB1.out hb1); clear hb1)
    | (refine wpList_buildSlice rfl 22 42 2 _ rfl (ex2.map Ev.cells).flatten.toArray iE _ Tryd.underlying22 hiH.out.1 hiH.out.2.1 (by rw [hiH.out.2.2]; omega) (by rw [hiH.out.2.2]; omega) (by simp only [hiH.out.2.2]; kernel_rfl) ?_)
    | (go_at_call 21; (have hr := rows_flat (L := ex2) (heap_alloc_new w1 (.cells (ex2.map Ev.cells).flatten.toArray 42)) (by decide)); (have hBW := bthen hB1.out (boxed w1 (.cells (ex2.map Ev.cells).flatten.toArray 42))); (refine (form2 _ _ hr).mono ?_); rintro e w2 ⟨A, rfl, hr2, hb2⟩; (have f2 : Hid (Rows w2 1 (some ⟨A, 0, none⟩) 2 ([(1 : Int), 0].map chCells) ∧ Below w.heap.size w w2) := ⟨hr2, bthen hBW hb2⟩); clear hr hBW hr2 hb2 hB1))
  go_upto_region 3 with (first
    | (go_at_call 22; (with_reducible refine (c0 _ _).mono ?_); rintro e w1 ⟨rfl, hb1⟩; (have f2 : Hid (Rows w1 1 (some ⟨A, 0, none⟩) 2 ([(1 : Int), 0].map chCells) ∧ Below w.heap.size w w1) := ⟨f2.out.1.later hb1, bthen f2.out.2 hb1⟩); clear hb1)
    | (refine wpList_buildSlice rfl 22 42 2 _ rfl (ex2.map Ev.cells).flatten.toArray iE _ Tryd.underlying22 hiH.out.1 hiH.out.2.1 (by rw [hiH.out.2.2]; omega) (by rw [hiH.out.2.2]; omega) (by simp only [hiH.out.2.2]; kernel_rfl) ?_)
    | (go_at_call 23; (have hr := rows_flat (L := ex2) (heap_alloc_new w1 (.cells (ex2.map Ev.cells).flatten.toArray 42)) (by decide)); (have hBW := boxed w1 (.cells (ex2.map Ev.cells).flatten.toArray 42)); (refine (count2 _ _ hr).mono ?_); rintro e w3 ⟨rfl, hb3⟩; (have f3 : Hid (Rows w3 1 (some ⟨A, 0, none⟩) 2 ([(1 : Int), 0].map chCells) ∧ Below w.heap.size w w3) := ⟨(f2.out.1.later hBW).later hb3, bthen (bthen f2.out.2 hBW) hb3⟩); clear hr hBW hb3 f2))
  have cS := sameInts_u [1, 0] (some ⟨A, 0, none⟩) (some ⟨w3.heap.size, 0, none⟩) 2 2 _ (f3.out.1.later (boxed w3 (.cells #[.int .i64 1, .int .i64 0] 3))) (rows_int (L := [1, 0]) (heap_alloc_new w3 (.cells #[.int .i64 1, .int .i64 0] 3)) (by decide))
  go_wp2_with (first
    | (refine wpList_buildSlice rfl 49 3 2 _ rfl #[.int .i64 1, .int .i64 0] iN _ Tryd.underlying49 hnH.out.1 hnH.out.2.1 (by rw [hnH.out.2.2]; omega) (by rw [hnH.out.2.2]; omega) (by simp only [hnH.out.2.2]; kernel_rfl) ?_)
    | (go_at_call 24; (refine cS.mono ?_); rintro e w4 ⟨rfl, hb4⟩; (have f4 : Hid (Below w.heap.size w w4) := bthen (bthen f3.out.2 (boxed w3 _)) hb4); clear hb4))
  go_ret
  exact ⟨rfl, f4.out⟩
end Go.Proofs.YtkadlopcomjonaaDoor.pg
