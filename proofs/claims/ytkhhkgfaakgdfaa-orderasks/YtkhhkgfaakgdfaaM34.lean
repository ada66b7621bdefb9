/- The document's own Past. -/
import Derived.Test.YtkhhkgfaakgdfaaM31
import Derived.Test.YtkhhkgfaakgdfaaM30
import Derived.Test.YtkhhkgfaakgdfaaM25
namespace Go.Proofs.Ytkhhkgfaakgdfaa.pg
open Go.ChangeShapes Go.WideShapes Go.ChangeAt Go.RowKit Go.Shelf
set_option linter.unusedVariables false
set_option linter.unusedSimpArgs false
set_option maxRecDepth 100000
attribute [local go_sem ↓] Go.wp_at_zero Go.wp_at_succ
set_option maxHeartbeats 1000000 in
theorem rpast_any (lo A n : Nat) (rb : Nat → Nat) (B : Nat → Nat → Bool) (j : Nat) (w : World) (hm : Mat w lo A n n rb B) (hn : n ≤ 256) (hj : j < n) :
    Calls Try.prog 27 #[.slice (some ⟨A, 0, none⟩) n n, .int .i64 (j : Int)] w fun e w' => ∃ va vc, e = .returned (.slice va (lst (fun k => B k j) n).length vc) ∧ LsS w (lst (fun k => B k j) n) va vc w' := by
  obtain ⟨iN, hiN, hzN, hsN, hbN⟩ := info_q infoN_u
  have hmH : Hid (Mat w lo A n n rb B) := hm
  have hnI : (n : Int) ≤ 256 := by omega
  have s0 : Hid (LsS w (lst (fun k => B k j) 0) none 0 w) := ⟨Below.refl _ _, own_nil_q _ _ _ _⟩
  obtain ⟨f, hf⟩ : ∃ f : Nat → Bool, f = fun k => B k j := ⟨_, rfl⟩
  have hfH : Hid (∀ k, f k = B k j) := fun k => by rw [hf]
  rw [← hf] at s0 ⊢
  clear hm hf
  go_enter Try.func27, Try.ntmps27
  go_wp2_with fail
  go_loopw [5, 6] (fun o u wr => ∃ (k : Nat) (va : Option Addr) (vc : Nat), k ≤ n ∧ u = .int .i64 k ∧ o = .slice va (lst f k).length vc ∧ Hid (LsS w (lst f k) va vc wr)) (fun _ u _ => n - (intOf u).toNat)
  case atStart => exact ⟨0, none, 0, by omega, rfl, rfl, s0⟩
  case round =>
    obtain ⟨k, va, vc, hk, rfl, rfl, hs⟩ := hrel
    clear s0
    by_cases hlt : k < n
    · have hkI : (k : Int) < n := by omega
      have xA := ix_row A n k hlt
      have xR := ix_bool (rb k) n j hj
      have u1 := (hmH.out.later hs.out.be).row hlt hlt
      have u2 := ((hmH.out.later hs.out.be).cell (i := k) (j := j) hlt hj).1
      rw [← hfH.out k] at u2
      have hll := lst_len f k
      have hmore : Hid (lst f (k + 1) = lst f k ++ (if f k = true then [(k : Int)] else [])) := rfl
      obtain ⟨b, hb⟩ : ∃ b, f k = b := ⟨_, rfl⟩
      rw [hb] at u2
      cases b with
      | true =>
        have hN : Hid (lst f (k + 1) = lst f k ++ [(k : Int)]) := by show _ = _; rw [hmore.out, if_pos hb]
        clear hmore hb
        generalize lst f k = L at *
        go_wp2_with (first
          | (at_builtin; (refine wpList_app1 rfl (.tmp 20) (.tmp 22) 30 rfl w.heap.size 3 iN _ 1 8 Try.underlying30 hiN hzN hsN hbN rfl (by decide) va vc (L.map chCells) (by rw [List.length_map]; rfl) hs.out.ow (chCells (k : Int)) rfl rfl (one1u _) (by rw [List.length_map]; unfold maxLen; omega) (by rw [List.length_map]; omega) hs.out.be.size ?_); intro va' vc' w2 hg; rw [List.length_map]; (have hg2 : Hid (LsS w (L ++ [(k : Int)]) va' vc' w2) := hs.out.grown hg); clear hg))
        go_roundw
        case rel => exact ⟨k + 1, va', vc', by omega, by go_num, by rw [hN.out, List.length_append]; rfl, by rw [hN.out]; exact hg2⟩
        case measure => simp [intOf]; omega
      | false =>
        have hN : Hid (lst f (k + 1) = lst f k) := by show _ = _; rw [hmore.out, if_neg (by rw [hb]; exact Bool.false_ne_true), List.append_nil]
        clear hmore hb
        go_wp2
        go_roundw
        case rel => exact ⟨k + 1, va, vc, by omega, by go_num, by rw [hN.out], by rw [hN.out]; exact hs⟩
        case measure => simp [intOf]; omega
    · have hk2 : k = n := by omega
      subst hk2
      go_wp2
      go_ret
      exact ⟨va, vc, rfl, hs.out⟩
end Go.Proofs.Ytkhhkgfaakgdfaa.pg
/- The statements' own event. -/
namespace Go.Proofs.Ytkhhkgfaakgdfaa.pg
open Go.ChangeShapes Go.WideShapes Go.ChangeAt Go.RowKit Go.Shelf
set_option linter.unusedVariables false
set_option linter.unusedSimpArgs false
set_option maxRecDepth 100000
attribute [local go_sem ↓] Go.wp_at_zero Go.wp_at_succ
def stEv (g v : Int) : Ev := ⟨g, 0, 0, 51, 0, 0, 0, ⟨1, v, true⟩, ⟨5, g, true⟩, acc0, acc0, acc0, acc0, 2⟩
def stEv0 (g : Int) : Ev := ⟨g, 0, 0, 51, 0, 0, 0, acc0, acc0, acc0, acc0, acc0, acc0, 2⟩
def stEvZ : Ev := ⟨0, 0, 0, 0, 0, 0, 0, acc0, acc0, acc0, acc0, acc0, acc0, 0⟩
def stEv1 (g v : Int) : Ev := ⟨g, 0, 0, 51, 0, 0, 0, ⟨1, v, true⟩, acc0, acc0, acc0, acc0, acc0, 2⟩
theorem put3 {W : World} {B o : Nat} {cs : Array Value} {t : TypeId} (h : W.heap[B]? = some (.cells cs t (0, 0))) (ho : o + 2 < cs.size) (a b c : Value) :
    W.there B o 3 ∧ (W.setCells B o [a, b, c]).heap[B]? = some (.cells (((cs.setIfInBounds o a).setIfInBounds (o + 1) b).setIfInBounds (o + 2) c) t (0, 0)) ∧ (∀ k, k ≠ B → (W.setCells B o [a, b, c]).heap[k]? = W.heap[k]?) ∧ ∀ n, n ≤ B → Below n W (W.setCells B o [a, b, c]) := by
  have e1 : W.setCells B o [a, b, c] = W.setRow B (((cs.setIfInBounds o a).setIfInBounds (o + 1) b).setIfInBounds (o + 2) c) := by
    simp only [World.setCells]
    rw [setCell_eq_setRow W B o _ _ _ a h]
    have h1 := setRow_heap W B _ (cs.setIfInBounds o a) _ _ h
    rw [setCell_eq_setRow _ B (o + 1) _ _ _ b h1, setRow_setRow]
    have h2 := setRow_heap W B _ ((cs.setIfInBounds o a).setIfInBounds (o + 1) b) _ _ h
    rw [setCell_eq_setRow _ B (o + 1 + 1) _ _ _ c h2, setRow_setRow]
  refine ⟨fun j hj => ⟨?_, frozen_of_row _ _ _ _ _ h⟩, ?_, ?_, ?_⟩
  · rw [cell_of_row W B (o + j) _ _ _ h, Array.getElem?_eq_getElem (by omega)]
    rfl
  · rw [e1]; exact setRow_heap W B _ _ _ _ h
  · intro k hk
    rw [e1]
    exact setRow_other _ _ _ _ hk
  · intro n hn
    rw [e1]
    exact below_setRow (Below.refl _ _) hn _
theorem infoE_ev (x : Ev) : (Try.prog.info? 66).map (·.size) = some x.cells.toArray.size := infoE26
set_option maxHeartbeats 1000000 in
theorem stored_any (g v : Int) (w : World) : Calls Try.prog 48 #[.int .i64 g, .int .i64 v] w fun e w' => e = .returned (.agg (stEv g v).cells.toArray) ∧ Below w.heap.size w w' := by
  have huE : Hid (Try.prog.underlying 66 = _) := Try.underlying66
  obtain ⟨Z, hz, hZs, _⟩ := zero_big (P := Try.prog) (t := 66) (n := 26) (by kernel_rfl)
  have hb := boxed2 w (.cells Z 66) (.cells Z 66)
  have hZ00 : ((w.alloc (.cells Z 66)).alloc (.cells Z 66)).heap[w.heap.size]? = some (.cells Z 66) := (Below.heap_alloc _ _ _ (by simp [World.size_alloc])).trans (heap_alloc_new w _)
  have hB00 : ((w.alloc (.cells Z 66)).alloc (.cells Z 66)).heap[w.heap.size + 1]? = some (.cells Z 66) := by
    have := heap_alloc_new (w.alloc (.cells Z 66)) (.cells Z 66)
    rwa [World.size_alloc] at this
  have hS : Z.size = (stEv0 g).cells.toArray.size := hZs
  have hSz : Z.size = (stEv g v).cells.toArray.size := hZs
  go_enter Try.func48, Try.ntmps48
  obtain ⟨W0, hW0⟩ : ∃ W0, (w.alloc (.cells Z 66)).alloc (.cells Z 66) = W0 := ⟨_, rfl⟩
  rw [hW0] at hb hZ00 hB00
  have hB0 := setRow_heap W0 (w.heap.size + 1) _ (stEv0 g).cells.toArray _ _ hB00
  have hZ0 := (setRow_other W0 (w.heap.size + 1) w.heap.size (stEv0 g).cells.toArray (by omega)).trans hZ00
  have hb0 := below_setRow hb (B := w.heap.size + 1) (by omega) (stEv0 g).cells.toArray
  obtain ⟨W1, hW1⟩ : ∃ W1, W0.setRow (w.heap.size + 1) (stEv0 g).cells.toArray = W1 := ⟨_, rfl⟩
  rw [hW1] at hB0 hZ0 hb0
  obtain ⟨t1, B1, o1, b1⟩ := put3 (o := 7) hB0 (by show 9 < 26; omega) (.int .i64 1) (.int .i64 v) (.bool true)
  have B1' : (W1.setCells (w.heap.size + 1) 7 [.int .i64 1, .int .i64 v, .bool true]).heap[w.heap.size + 1]? = some (.cells (stEv1 g v).cells.toArray 66) := B1
  have Z1 := (o1 w.heap.size (by omega)).trans hZ0
  have bb1 := hb0.trans (b1 w.heap.size (by omega))
  obtain ⟨W2, hW2⟩ : ∃ W2, W1.setCells (w.heap.size + 1) 7 [.int .i64 1, .int .i64 v, .bool true] = W2 := ⟨_, rfl⟩
  rw [hW2] at B1' Z1 bb1
  obtain ⟨t2, B2, o2, b2⟩ := put3 (o := 10) B1' (by show 12 < 26; omega) (.int .i64 5) (.int .i64 g) (.bool true)
  have B2' : (W2.setCells (w.heap.size + 1) 10 [.int .i64 5, .int .i64 g, .bool true]).heap[w.heap.size + 1]? = some (.cells (stEv g v).cells.toArray 66) := B2
  have Z2 := (o2 w.heap.size (by omega)).trans Z1
  have bb2 := bb1.trans (b2 w.heap.size (by omega))
  obtain ⟨W3, hW3⟩ : ∃ W3, W2.setCells (w.heap.size + 1) 10 [.int .i64 5, .int .i64 g, .bool true] = W3 := ⟨_, rfl⟩
  rw [hW3] at B2' Z2 bb2
  have hall : Hid (W1.there (w.heap.size + 1) 7 3 ∧ W2.there (w.heap.size + 1) 10 3 ∧ W3.heap[w.heap.size + 1]? = some (.cells (stEv g v).cells.toArray 66) ∧ W3.heap[w.heap.size]? = some (.cells Z 66) ∧ Below w.heap.size w W3) := ⟨t1, t2, B2', Z2, bb2⟩
  have hW0H : Hid ((w.alloc (.cells Z 66)).alloc (.cells Z 66) = W0) := hW0
  have hB0H : Hid (W0.heap[w.heap.size + 1]? = some (.cells Z 66)) := hB00
  have hW1H : Hid (W0.setRow (w.heap.size + 1) (stEv0 g).cells.toArray = W1) := hW1
  have hW2H : Hid (W1.setCells (w.heap.size + 1) 7 [.int .i64 1, .int .i64 v, .bool true] = W2) := hW2
  have hW3H : Hid (W2.setCells (w.heap.size + 1) 10 [.int .i64 5, .int .i64 g, .bool true] = W3) := hW3
  have hzH : Hid (∀ w, (zeroValue 66).run Try.prog w = .ok (.agg Z) w) := hz
  have hSH : Hid (Z.size = (stEv0 g).cells.toArray.size ∧ Z.size = (stEv g v).cells.toArray.size) := ⟨hS, hSz⟩
  clear hW0 hW1 hW2 hW3 t1 t2 B1 B1' B2 B2' Z1 Z2 bb1 bb2 o1 o2 b1 b2 hb hb0 hZ0 hB0 hZ00 hB00 hz hS hSz hZs
  go_wp2_with (first
    | (refine wpList_alloc_big rfl 66 rfl hzH.out ?_; (try rw [World.size_alloc]); (try rw [hW0H.out]))
    | (refine wpList_store_row rfl 66 _ _ rfl (w.heap.size + 1) (stEv0 g).cells.toArray rfl rfl _ _ hB0H.out (infoE_ev (stEv0 g)) hSH.out.1 (ev_one (stEv0 g)) ?_; rw [hW1H.out])
    | (refine wpList_store_mid rfl 63 _ _ rfl (w.heap.size + 1) 7 #[.int .i64 1, .int .i64 v, .bool true] rfl rfl hall.out.1 (by kernel_rfl) (by simp [Value.oneCell']) ?_; rw [show W1.setCells (w.heap.size + 1) 7 _ = W2 from hW2H.out])
    | (refine wpList_store_mid rfl 63 _ _ rfl (w.heap.size + 1) 10 #[.int .i64 5, .int .i64 g, .bool true] rfl rfl hall.out.2.1 (by kernel_rfl) (by simp [Value.oneCell']) ?_; rw [show W2.setCells (w.heap.size + 1) 10 _ = W3 from hW3H.out])
    | (refine wpList_load_row rfl 66 _ rfl (w.heap.size + 1) rfl _ _ _ _ hall.out.2.2.1 huE.out rfl (infoE_ev _) ?_)
    | (refine wpList_store_row rfl 66 _ _ rfl w.heap.size (stEv g v).cells.toArray rfl rfl _ _ hall.out.2.2.2.1 (infoE_ev (stEv g v)) hSH.out.2 (ev_one (stEv g v)) ?_))
  refine bodyPost_ret (results_cell_row Try.results48 _ _ w.heap.size 66 _ (0, 0) _ rfl (setRow_heap W3 w.heap.size _ _ _ _ hall.out.2.2.2.1) huE.out rfl (infoE_ev (stEv g v))) rfl ⟨rfl, below_setRow hall.out.2.2.2.2 (Nat.le_refl _) _⟩
end Go.Proofs.Ytkhhkgfaakgdfaa.pg
