/- The statements' own event. -/
import Derived.Test.YtbajfgllgfmnfaaEd0
import Derived.Test.YtbajfgllgfmnfaaHt0
namespace Go.Proofs.Ytbajfgllgfmnfaa.pg
open Go.ChangeShapes Go.WideShapes Go.ChangeAt Go.RowKit Go.Shelf
set_option linter.unusedVariables false
set_option linter.unusedSimpArgs false
set_option maxRecDepth 100000
attribute [local go_sem ↓] Go.wp_at_zero Go.wp_at_succ
def stEv (g v : Int) : Ev := ⟨g, 0, 0, 51, 0, 0, 0, ⟨1, v, true⟩, ⟨5, g, true⟩, acc0, acc0, acc0, acc0, 2⟩
def stEv0 (g : Int) : Ev := ⟨g, 0, 0, 51, 0, 0, 0, acc0, acc0, acc0, acc0, acc0, acc0, 2⟩
def stEvZ : Ev := ⟨0, 0, 0, 0, 0, 0, 0, acc0, acc0, acc0, acc0, acc0, acc0, 0⟩
def stEv1 (g v : Int) : Ev := ⟨g, 0, 0, 51, 0, 0, 0, ⟨1, v, true⟩, acc0, acc0, acc0, acc0, acc0, 2⟩
theorem put3 {W : World} {B o : Nat} {cs : Array Value} {t : TypeId} (h : W.heap[B]? = some (.cells cs t (0, 0))) (ho : o + 2 < cs.size) (a b c : Value) :
    W.there B o 3 ∧ (W.setCells B o [a, b, c]).heap[B]? = some (.cells (((cs.setIfInBounds o a).setIfInBounds (o + 1) b).setIfInBounds (o + 2) c) t (0, 0)) ∧ (∀ k, k ≠ B → (W.setCells B o [a, b, c]).heap[k]? = W.heap[k]?) ∧ ∀ n, n ≤ B → Below n W (W.setCells B o [a, b, c]) := by
  have e1 : W.setCells B o [a, b, c] = W.setRow B (((cs.setIfInBounds o a).setIfInBounds (o + 1) b).setIfInBounds (o + 2) c) := by
    simp only [World.setCells]
    rw [setCell_eq_setRow W B o _ _ _ a h]
    have h1 := setRow_heap W B _ (cs.setIfInBounds o a) _ _ h
    rw [setCell_eq_setRow _ B (o + 1) _ _ _ b h1, setRow_setRow]
    have h2 := setRow_heap W B _ ((cs.setIfInBounds o a).setIfInBounds (o + 1) b) _ _ h
    rw [setCell_eq_setRow _ B (o + 1 + 1) _ _ _ c h2, setRow_setRow]
  refine ⟨fun j hj => ⟨?_, frozen_of_row _ _ _ _ _ h⟩, ?_, ?_, ?_⟩
  · rw [cell_of_row W B (o + j) _ _ _ h, Array.getElem?_eq_getElem (by omega)]
    rfl
  · rw [e1]; exact setRow_heap W B _ _ _ _ h
  · intro k hk
    rw [e1]
    exact setRow_other _ _ _ _ hk
  · intro n hn
    rw [e1]
    exact below_setRow (Below.refl _ _) hn _
theorem infoE_ev (x : Ev) : (Try.prog.info? 66).map (·.size) = some x.cells.toArray.size := infoE26
set_option maxHeartbeats 1000000 in
theorem stored_any (g v : Int) (w : World) : Calls Try.prog 38 #[.int .i64 g, .int .i64 v] w fun e w' => e = .returned (.agg (stEv g v).cells.toArray) ∧ Below w.heap.size w w' := by
  have huE : Hid (Try.prog.underlying 66 = _) := Try.underlying66
  obtain ⟨Z, hz, hZs, _⟩ := zero_big (P := Try.prog) (t := 66) (n := 26) (by kernel_rfl)
  have hb := boxed2 w (.cells Z 66) (.cells Z 66)
  have hZ00 : ((w.alloc (.cells Z 66)).alloc (.cells Z 66)).heap[w.heap.size]? = some (.cells Z 66) := (Below.heap_alloc _ _ _ (by simp [World.size_alloc])).trans (heap_alloc_new w _)
  have hB00 : ((w.alloc (.cells Z 66)).alloc (.cells Z 66)).heap[w.heap.size + 1]? = some (.cells Z 66) := by
    have := heap_alloc_new (w.alloc (.cells Z 66)) (.cells Z 66)
    rwa [World.size_alloc] at this
  have hS : Z.size = (stEv0 g).cells.toArray.size := hZs
  have hSz : Z.size = (stEv g v).cells.toArray.size := hZs
  go_enter Try.func38, Try.ntmps38
  obtain ⟨W0, hW0⟩ : ∃ W0, (w.alloc (.cells Z 66)).alloc (.cells Z 66) = W0 := ⟨_, rfl⟩
  rw [hW0] at hb hZ00 hB00
  have hB0 := setRow_heap W0 (w.heap.size + 1) _ (stEv0 g).cells.toArray _ _ hB00
  have hZ0 := (setRow_other W0 (w.heap.size + 1) w.heap.size (stEv0 g).cells.toArray (by omega)).trans hZ00
  have hb0 := below_setRow hb (B := w.heap.size + 1) (by omega) (stEv0 g).cells.toArray
  obtain ⟨W1, hW1⟩ : ∃ W1, W0.setRow (w.heap.size + 1) (stEv0 g).cells.toArray = W1 := ⟨_, rfl⟩
  rw [hW1] at hB0 hZ0 hb0
  obtain ⟨t1, B1, o1, b1⟩ := put3 (o := 7) hB0 (by show 9 < 26; omega) (.int .i64 1) (.int .i64 v) (.bool true)
  have B1' : (W1.setCells (w.heap.size + 1) 7 [.int .i64 1, .int .i64 v, .bool true]).heap[w.heap.size + 1]? = some (.cells (stEv1 g v).cells.toArray 66) := B1
  have Z1 := (o1 w.heap.size (by omega)).trans hZ0
  have bb1 := hb0.trans (b1 w.heap.size (by omega))
  obtain ⟨W2, hW2⟩ : ∃ W2, W1.setCells (w.heap.size + 1) 7 [.int .i64 1, .int .i64 v, .bool true] = W2 := ⟨_, rfl⟩
  rw [hW2] at B1' Z1 bb1
  obtain ⟨t2, B2, o2, b2⟩ := put3 (o := 10) B1' (by show 12 < 26; omega) (.int .i64 5) (.int .i64 g) (.bool true)
  have B2' : (W2.setCells (w.heap.size + 1) 10 [.int .i64 5, .int .i64 g, .bool true]).heap[w.heap.size + 1]? = some (.cells (stEv g v).cells.toArray 66) := B2
  have Z2 := (o2 w.heap.size (by omega)).trans Z1
  have bb2 := bb1.trans (b2 w.heap.size (by omega))
  obtain ⟨W3, hW3⟩ : ∃ W3, W2.setCells (w.heap.size + 1) 10 [.int .i64 5, .int .i64 g, .bool true] = W3 := ⟨_, rfl⟩
  rw [hW3] at B2' Z2 bb2
  have hall : Hid (W1.there (w.heap.size + 1) 7 3 ∧ W2.there (w.heap.size + 1) 10 3 ∧ W3.heap[w.heap.size + 1]? = some (.cells (stEv g v).cells.toArray 66) ∧ W3.heap[w.heap.size]? = some (.cells Z 66) ∧ Below w.heap.size w W3) := ⟨t1, t2, B2', Z2, bb2⟩
  have hW0H : Hid ((w.alloc (.cells Z 66)).alloc (.cells Z 66) = W0) := hW0
  have hB0H : Hid (W0.heap[w.heap.size + 1]? = some (.cells Z 66)) := hB00
  have hW1H : Hid (W0.setRow (w.heap.size + 1) (stEv0 g).cells.toArray = W1) := hW1
  have hW2H : Hid (W1.setCells (w.heap.size + 1) 7 [.int .i64 1, .int .i64 v, .bool true] = W2) := hW2
  have hW3H : Hid (W2.setCells (w.heap.size + 1) 10 [.int .i64 5, .int .i64 g, .bool true] = W3) := hW3
  have hzH : Hid (∀ w, (zeroValue 66).run Try.prog w = .ok (.agg Z) w) := hz
  have hSH : Hid (Z.size = (stEv0 g).cells.toArray.size ∧ Z.size = (stEv g v).cells.toArray.size) := ⟨hS, hSz⟩
  clear hW0 hW1 hW2 hW3 t1 t2 B1 B1' B2 B2' Z1 Z2 bb1 bb2 o1 o2 b1 b2 hb hb0 hZ0 hB0 hZ00 hB00 hz hS hSz hZs
  go_wp2_with (first
    | (refine wpList_alloc_big rfl 66 rfl hzH.out ?_; (try rw [World.size_alloc]); (try rw [hW0H.out]))
    | (refine wpList_store_row rfl 66 _ _ rfl (w.heap.size + 1) (stEv0 g).cells.toArray rfl rfl _ _ hB0H.out (infoE_ev (stEv0 g)) hSH.out.1 (ev_one (stEv0 g)) ?_; rw [hW1H.out])
    | (refine wpList_store_mid rfl 63 _ _ rfl (w.heap.size + 1) 7 #[.int .i64 1, .int .i64 v, .bool true] rfl rfl hall.out.1 (by kernel_rfl) (by simp [Value.oneCell']) ?_; rw [show W1.setCells (w.heap.size + 1) 7 _ = W2 from hW2H.out])
    | (refine wpList_store_mid rfl 63 _ _ rfl (w.heap.size + 1) 10 #[.int .i64 5, .int .i64 g, .bool true] rfl rfl hall.out.2.1 (by kernel_rfl) (by simp [Value.oneCell']) ?_; rw [show W2.setCells (w.heap.size + 1) 10 _ = W3 from hW3H.out])
    | (refine wpList_load_row rfl 66 _ rfl (w.heap.size + 1) rfl _ _ _ _ hall.out.2.2.1 huE.out rfl (infoE_ev _) ?_)
    | (refine wpList_store_row rfl 66 _ _ rfl w.heap.size (stEv g v).cells.toArray rfl rfl _ _ hall.out.2.2.2.1 (infoE_ev (stEv g v)) hSH.out.2 (ev_one (stEv g v)) ?_))
  refine bodyPost_ret (results_cell_row Try.results38 _ _ w.heap.size 66 _ (0, 0) _ rfl (setRow_heap W3 w.heap.size _ _ _ _ hall.out.2.2.2.1) huE.out rfl (infoE_ev (stEv g v))) rfl ⟨rfl, below_setRow hall.out.2.2.2.2 (Nat.le_refl _) _⟩
end Go.Proofs.Ytbajfgllgfmnfaa.pg
