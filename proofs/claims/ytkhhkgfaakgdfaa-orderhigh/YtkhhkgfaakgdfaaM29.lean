/- Edges of package order. -/
import Derived.Test.YtkhhkgfaakgdfaaM28
import Derived.Test.YtkhhkgfaakgdfaaM24
import Derived.Test.YtkhhkgfaakgdfaaM25
namespace Go.Proofs.Ytkhhkgfaakgdfaa.pg
open Go.ChangeShapes Go.WideShapes Go.ChangeAt Go.RowKit Go.Shelf
set_option linter.unusedVariables false
set_option linter.unusedSimpArgs false
set_option maxRecDepth 100000
attribute [local go_sem ↓] Go.wp_at_zero Go.wp_at_succ
set_option maxHeartbeats 1000000 in
theorem ins_nil (w : World) : Calls Try.prog 79 #[.slice none 0 0, .int .i64 0, .int .i64 0, .func (.func 44) #[] #[]] w fun e w' => (∃ v, e = .returned v) ∧ w' = w := by
  go_enter Try.func79, Try.ntmps79
  go_wp2
  go_loopw [8] (fun u wr => u = .int .i64 1 ∧ wr = w) (fun _ _ => 0)
  case atStart => exact ⟨rfl, rfl⟩
  case round =>
    obtain ⟨rfl, rfl⟩ := hrel
    go_wp2
    go_end0
    exact ⟨⟨_, rfl⟩, rfl⟩
set_option maxHeartbeats 1000000 in
theorem pdq_nil (n : Int) (w : World) : Calls Try.prog 66 #[.slice none 0 0, .int .i64 0, .int .i64 0, .int .i64 n, .func (.func 44) #[] #[]] w fun e w' => (∃ v, e = .returned v) ∧ w' = w := by
  have c1 := ins_nil w
  go_enter Try.func66, Try.ntmps66
  go_wp2_with fail
  refine wp_loop_once ?_
  go_wp2_with (go_at_call 79; (with_reducible refine c1.mono ?_); rintro e w' ⟨⟨v, rfl⟩, rfl⟩)
  exact bodyPost_ret (results_none rfl _ _ _) rfl ⟨⟨_, rfl⟩, rfl⟩
theorem len0 (w : World) : Calls Try.prog 67 #[.int .u64 0] w fun e w' => (∃ n, e = .returned (.int .i64 n)) ∧ w' = w := by
  have h := Try.bits_Len 0 w (by omega) (by omega)
  exact h.mono fun e w' ⟨he, hw⟩ => ⟨⟨_, he⟩, hw⟩
set_option maxHeartbeats 1000000 in
theorem sort_nil (w : World) : Calls Try.prog 43 #[.slice none 0 0, .func (.func 44) #[] #[]] w fun e w' => (∃ v, e = .returned v) ∧ w' = w := by
  have c1 := len0 w
  have c2 := fun n => pdq_nil n w
  go_enter Try.func43, Try.ntmps43
  go_wp2_with (first | (go_at_call 67; (with_reducible refine c1.mono ?_); rintro e w' ⟨⟨v, rfl⟩, rfl⟩) | (go_at_call 66; (with_reducible refine (c2 _).mono ?_); rintro e w' ⟨⟨v2, rfl⟩, rfl⟩))
  go_end0
  exact ⟨⟨_, rfl⟩, rfl⟩
theorem own_nil_is {w : World} {lo e k cap : Nat} {L : List (List Value)} (h : OwnL w lo e k none cap L) : L = [] ∧ cap = 0 := by
  rcases own_block h with ⟨_, h1, h2⟩ | ⟨g, h1, _⟩
  · exact ⟨List.length_eq_zero_iff.mp h1, h2⟩
  · cases h1
/-- Sorting a list of the call's own, nil too. -/
theorem sortE_any (da : Option Addr) (cap lo : Nat) (E : List (Nat × Nat)) (w : World) (hE : OwnL w lo 41 2 da cap (E.map edg)) (hlen : E.length ≤ 65536) :
    Calls Try.prog 43 #[.slice da E.length cap, .func (.func 44) #[] #[]] w fun e w' => (∃ v, e = .returned v) ∧ ∃ D : List (Nat × Nat), D.Perm E ∧ D.Pairwise lex ∧ Rows w' 2 da cap (D.map edg) ∧ (∀ b, b < w.heap.size → b ∉ blk da → w'.heap[b]? = w.heap[b]?) ∧ Below lo w w' := by
  cases da with
  | none =>
    obtain ⟨h1, rfl⟩ := own_nil_is hE
    have hE0 : E = [] := by simpa using h1
    subst hE0
    exact (sort_nil w).mono fun e w' ⟨hv, hw⟩ => ⟨hv, [], .refl _, .nil, by rw [hw]; exact ⟨by simp, by omega, fun _ => ⟨rfl, rfl⟩, .inl rfl⟩, fun b _ _ => by rw [hw], by rw [hw]; exact Below.refl _ _⟩
  | some ad =>
    rcases own_block hE with ⟨h1, _⟩ | ⟨g, h1, h2, h3⟩
    · cases h1
    · cases h1
      exact (sort_any g cap lo E w hE hlen).mono fun e w' ⟨he, D, q1, q2, q3, q4, q5⟩ => ⟨⟨_, he⟩, D, q1, q2, q3, fun b b1 b2 => q4 b b1 fun q => b2 (by simp [blk, q]), q5⟩
set_option maxHeartbeats 1000000 in
theorem edges_ok (l : List Ev) (la : Option Addr) (lc : Nat) (w : World) (hl : Rows w 26 la lc (l.map Ev.cells)) (hlen : l.length ≤ 256) (hrt : ∀ x ∈ l, rightP x) :
    Calls Try.prog 12 #[.slice la l.length lc] w fun e w' => ∃ da dc, ∃ D : List (Nat × Nat), e = .returned (.tuple #[.slice da D.length dc, .int .i64 0]) ∧ D.Perm (rel (evf l) l.length).2 ∧ D.Pairwise lex ∧ Rows w' 2 da dc (D.map edg) ∧ Below w.heap.size w w' := by
  have c1 : Calls Try.prog 42 #[.slice la l.length lc, .slice none 0 0] w (LookPost l la lc w) := look_any l la lc [] none 0 w hl (rows_nil1 w) hlen hrt (by simp) (by simp)
  have hEl : (rel (evf l) l.length).2.length ≤ 65536 := by have := rel_edges (evf l) l.length hlen; omega
  have hElH : Hid ((rel (evf l) l.length).2.length ≤ 65536) := hEl
  clear hl hrt hEl
  go_enter Try.func12, Try.ntmps12
  go_wp2_with (first
    | (go_at_call 42; (with_reducible refine c1.mono ?_); rintro e w1 ⟨ca, cc, da, dc, rfl, _, oe', hb'⟩; (have oe : Hid (OwnL (w1.alloc (.cells #[.slice la l.length lc, .slice ca l.length cc, .slice da (rel (evf l) l.length).2.length dc] 78)) w.heap.size 41 2 da dc ((rel (evf l) l.length).2.map edg)) := own_keep oe' fun b hb' => (boxed w1 _).block b (blk_lt oe' b hb').2); (have hb : Hid (Below w.heap.size w (w1.alloc (.cells #[.slice la l.length lc, .slice ca l.length cc, .slice da (rel (evf l) l.length).2.length dc] 78))) := bthen hb' (boxed _ _)); (have hn : (w1.alloc (.cells #[.slice la l.length lc, .slice ca l.length cc, .slice da (rel (evf l) l.length).2.length dc] 78)).heap[w1.heap.size]? = some (.cells #[.slice la l.length lc, .slice ca l.length cc, .slice da (rel (evf l) l.length).2.length dc] 78) := heap_alloc_new _ _); (have hx := cell_of (k := 2) (v := .slice da (rel (evf l) l.length).2.length dc) hn rfl); (have hnb : Hid (w1.heap.size ∉ blk da) := fun q => by have := (blk_lt oe' _ q).2; omega); (have hnH : Hid _ := hn); clear oe' hb' c1 hn)
    | (refine wpList_store_new rfl 78 _ _ rfl rfl _ _ rfl (by kernel_rfl) rfl (one3 _ _ _ _ _ _ _ _ _) ?_)
    | (go_at_call 43; (refine (sortE_any da dc w.heap.size _ _ oe.out hElH.out).mono ?_); rintro e w2 ⟨⟨v, rfl⟩, D, q1, q2, q3, q4, q5⟩; (have hx2 := cell_of (k := 2) (v := .slice da (rel (evf l) l.length).2.length dc) ((q4 _ (by rw [World.size_alloc]; omega) hnb.out).trans hnH.out) rfl); (have qH : Hid (D.Perm (rel (evf l) l.length).2 ∧ D.Pairwise lex ∧ Rows w2 2 da dc (D.map edg) ∧ Below w.heap.size w w2) := ⟨q1, q2, q3, hb.out.trans q5⟩); clear q1 q2 q3 q4 q5))
  go_ret2
  exact ⟨da, dc, D, by rw [qH.out.1.length_eq]; rfl, qH.out⟩
end Go.Proofs.Ytkhhkgfaakgdfaa.pg
/- The statements' own event. -/
namespace Go.Proofs.Ytkhhkgfaakgdfaa.pg
open Go.ChangeShapes Go.WideShapes Go.ChangeAt Go.RowKit Go.Shelf
set_option linter.unusedVariables false
set_option linter.unusedSimpArgs false
set_option maxRecDepth 100000
attribute [local go_sem ↓] Go.wp_at_zero Go.wp_at_succ
def stEv (g v : Int) : Ev := ⟨g, 0, 0, 51, 0, 0, 0, ⟨1, v, true⟩, ⟨5, g, true⟩, acc0, acc0, acc0, acc0, 2⟩
def stEv0 (g : Int) : Ev := ⟨g, 0, 0, 51, 0, 0, 0, acc0, acc0, acc0, acc0, acc0, acc0, 2⟩
def stEvZ : Ev := ⟨0, 0, 0, 0, 0, 0, 0, acc0, acc0, acc0, acc0, acc0, acc0, 0⟩
def stEv1 (g v : Int) : Ev := ⟨g, 0, 0, 51, 0, 0, 0, ⟨1, v, true⟩, acc0, acc0, acc0, acc0, acc0, 2⟩
theorem put3 {W : World} {B o : Nat} {cs : Array Value} {t : TypeId} (h : W.heap[B]? = some (.cells cs t (0, 0))) (ho : o + 2 < cs.size) (a b c : Value) :
    W.there B o 3 ∧ (W.setCells B o [a, b, c]).heap[B]? = some (.cells (((cs.setIfInBounds o a).setIfInBounds (o + 1) b).setIfInBounds (o + 2) c) t (0, 0)) ∧ (∀ k, k ≠ B → (W.setCells B o [a, b, c]).heap[k]? = W.heap[k]?) ∧ ∀ n, n ≤ B → Below n W (W.setCells B o [a, b, c]) := by
  have e1 : W.setCells B o [a, b, c] = W.setRow B (((cs.setIfInBounds o a).setIfInBounds (o + 1) b).setIfInBounds (o + 2) c) := by
    simp only [World.setCells]
    rw [setCell_eq_setRow W B o _ _ _ a h]
    have h1 := setRow_heap W B _ (cs.setIfInBounds o a) _ _ h
    rw [setCell_eq_setRow _ B (o + 1) _ _ _ b h1, setRow_setRow]
    have h2 := setRow_heap W B _ ((cs.setIfInBounds o a).setIfInBounds (o + 1) b) _ _ h
    rw [setCell_eq_setRow _ B (o + 1 + 1) _ _ _ c h2, setRow_setRow]
  refine ⟨fun j hj => ⟨?_, frozen_of_row _ _ _ _ _ h⟩, ?_, ?_, ?_⟩
  · rw [cell_of_row W B (o + j) _ _ _ h, Array.getElem?_eq_getElem (by omega)]
    rfl
  · rw [e1]; exact setRow_heap W B _ _ _ _ h
  · intro k hk
    rw [e1]
    exact setRow_other _ _ _ _ hk
  · intro n hn
    rw [e1]
    exact below_setRow (Below.refl _ _) hn _
theorem infoE_ev (x : Ev) : (Try.prog.info? 66).map (·.size) = some x.cells.toArray.size := infoE26
set_option maxHeartbeats 1000000 in
theorem stored_any (g v : Int) (w : World) : Calls Try.prog 48 #[.int .i64 g, .int .i64 v] w fun e w' => e = .returned (.agg (stEv g v).cells.toArray) ∧ Below w.heap.size w w' := by
  have huE : Hid (Try.prog.underlying 66 = _) := Try.underlying66
  obtain ⟨Z, hz, hZs, _⟩ := zero_big (P := Try.prog) (t := 66) (n := 26) (by kernel_rfl)
  have hb := boxed2 w (.cells Z 66) (.cells Z 66)
  have hZ00 : ((w.alloc (.cells Z 66)).alloc (.cells Z 66)).heap[w.heap.size]? = some (.cells Z 66) := (Below.heap_alloc _ _ _ (by simp [World.size_alloc])).trans (heap_alloc_new w _)
  have hB00 : ((w.alloc (.cells Z 66)).alloc (.cells Z 66)).heap[w.heap.size + 1]? = some (.cells Z 66) := by
    have := heap_alloc_new (w.alloc (.cells Z 66)) (.cells Z 66)
    rwa [World.size_alloc] at this
  have hS : Z.size = (stEv0 g).cells.toArray.size := hZs
  have hSz : Z.size = (stEv g v).cells.toArray.size := hZs
  go_enter Try.func48, Try.ntmps48
  obtain ⟨W0, hW0⟩ : ∃ W0, (w.alloc (.cells Z 66)).alloc (.cells Z 66) = W0 := ⟨_, rfl⟩
  rw [hW0] at hb hZ00 hB00
  have hB0 := setRow_heap W0 (w.heap.size + 1) _ (stEv0 g).cells.toArray _ _ hB00
  have hZ0 := (setRow_other W0 (w.heap.size + 1) w.heap.size (stEv0 g).cells.toArray (by omega)).trans hZ00
  have hb0 := below_setRow hb (B := w.heap.size + 1) (by omega) (stEv0 g).cells.toArray
  obtain ⟨W1, hW1⟩ : ∃ W1, W0.setRow (w.heap.size + 1) (stEv0 g).cells.toArray = W1 := ⟨_, rfl⟩
  rw [hW1] at hB0 hZ0 hb0
  obtain ⟨t1, B1, o1, b1⟩ := put3 (o := 7) hB0 (by show 9 < 26; omega) (.int .i64 1) (.int .i64 v) (.bool true)
  have B1' : (W1.setCells (w.heap.size + 1) 7 [.int .i64 1, .int .i64 v, .bool true]).heap[w.heap.size + 1]? = some (.cells (stEv1 g v).cells.toArray 66) := B1
  have Z1 := (o1 w.heap.size (by omega)).trans hZ0
  have bb1 := hb0.trans (b1 w.heap.size (by omega))
  obtain ⟨W2, hW2⟩ : ∃ W2, W1.setCells (w.heap.size + 1) 7 [.int .i64 1, .int .i64 v, .bool true] = W2 := ⟨_, rfl⟩
  rw [hW2] at B1' Z1 bb1
  obtain ⟨t2, B2, o2, b2⟩ := put3 (o := 10) B1' (by show 12 < 26; omega) (.int .i64 5) (.int .i64 g) (.bool true)
  have B2' : (W2.setCells (w.heap.size + 1) 10 [.int .i64 5, .int .i64 g, .bool true]).heap[w.heap.size + 1]? = some (.cells (stEv g v).cells.toArray 66) := B2
  have Z2 := (o2 w.heap.size (by omega)).trans Z1
  have bb2 := bb1.trans (b2 w.heap.size (by omega))
  obtain ⟨W3, hW3⟩ : ∃ W3, W2.setCells (w.heap.size + 1) 10 [.int .i64 5, .int .i64 g, .bool true] = W3 := ⟨_, rfl⟩
  rw [hW3] at B2' Z2 bb2
  have hall : Hid (W1.there (w.heap.size + 1) 7 3 ∧ W2.there (w.heap.size + 1) 10 3 ∧ W3.heap[w.heap.size + 1]? = some (.cells (stEv g v).cells.toArray 66) ∧ W3.heap[w.heap.size]? = some (.cells Z 66) ∧ Below w.heap.size w W3) := ⟨t1, t2, B2', Z2, bb2⟩
  have hW0H : Hid ((w.alloc (.cells Z 66)).alloc (.cells Z 66) = W0) := hW0
  have hB0H : Hid (W0.heap[w.heap.size + 1]? = some (.cells Z 66)) := hB00
  have hW1H : Hid (W0.setRow (w.heap.size + 1) (stEv0 g).cells.toArray = W1) := hW1
  have hW2H : Hid (W1.setCells (w.heap.size + 1) 7 [.int .i64 1, .int .i64 v, .bool true] = W2) := hW2
  have hW3H : Hid (W2.setCells (w.heap.size + 1) 10 [.int .i64 5, .int .i64 g, .bool true] = W3) := hW3
  have hzH : Hid (∀ w, (zeroValue 66).run Try.prog w = .ok (.agg Z) w) := hz
  have hSH : Hid (Z.size = (stEv0 g).cells.toArray.size ∧ Z.size = (stEv g v).cells.toArray.size) := ⟨hS, hSz⟩
  clear hW0 hW1 hW2 hW3 t1 t2 B1 B1' B2 B2' Z1 Z2 bb1 bb2 o1 o2 b1 b2 hb hb0 hZ0 hB0 hZ00 hB00 hz hS hSz hZs
  go_wp2_with (first
    | (refine wpList_alloc_big rfl 66 rfl hzH.out ?_; (try rw [World.size_alloc]); (try rw [hW0H.out]))
    | (refine wpList_store_row rfl 66 _ _ rfl (w.heap.size + 1) (stEv0 g).cells.toArray rfl rfl _ _ hB0H.out (infoE_ev (stEv0 g)) hSH.out.1 (ev_one (stEv0 g)) ?_; rw [hW1H.out])
    | (refine wpList_store_mid rfl 63 _ _ rfl (w.heap.size + 1) 7 #[.int .i64 1, .int .i64 v, .bool true] rfl rfl hall.out.1 (by kernel_rfl) (by simp [Value.oneCell']) ?_; rw [show W1.setCells (w.heap.size + 1) 7 _ = W2 from hW2H.out])
    | (refine wpList_store_mid rfl 63 _ _ rfl (w.heap.size + 1) 10 #[.int .i64 5, .int .i64 g, .bool true] rfl rfl hall.out.2.1 (by kernel_rfl) (by simp [Value.oneCell']) ?_; rw [show W2.setCells (w.heap.size + 1) 10 _ = W3 from hW3H.out])
    | (refine wpList_load_row rfl 66 _ rfl (w.heap.size + 1) rfl _ _ _ _ hall.out.2.2.1 huE.out rfl (infoE_ev _) ?_)
    | (refine wpList_store_row rfl 66 _ _ rfl w.heap.size (stEv g v).cells.toArray rfl rfl _ _ hall.out.2.2.2.1 (infoE_ev (stEv g v)) hSH.out.2 (ev_one (stEv g v)) ?_))
  refine bodyPost_ret (results_cell_row Try.results48 _ _ w.heap.size 66 _ (0, 0) _ rfl (setRow_heap W3 w.heap.size _ _ _ _ hall.out.2.2.2.1) huE.out rfl (infoE_ev (stEv g v))) rfl ⟨rfl, below_setRow hall.out.2.2.2.2 (Nat.le_refl _) _⟩
end Go.Proofs.Ytkhhkgfaakgdfaa.pg
