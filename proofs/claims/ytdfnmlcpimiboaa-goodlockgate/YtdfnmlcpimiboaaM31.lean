/- The events that touch an object, by package depend; DependUses, walked. -/
import Derived.Test.YtdfnmlcpimiboaaM15
import Derived.Test.YtdfnmlcpimiboaaM30
import Derived.Deep.MidRow
import Derived.Maps.OwnOps
import Derived.Maps.OwnSet
import Derived.DeepKeys4
import Derived.MapViews
import Derived.Laws.StructEq
namespace Go.Proofs.Ytdfnmlcpimiboaa.pg
open Go.ChangeShapes Go.WideShapes Go.ChangeAt Go.RowKit
set_option linter.unusedVariables false
set_option linter.unusedSimpArgs false
set_option maxRecDepth 100000
attribute [local go_sem ↓] Go.wp_at_zero Go.wp_at_succ
/-- Events that came in. -/
def EvsIn (w : World) (b : Option Addr) (c : Nat) (l : List Ev) : Prop := Rows w 26 b c (l.map Ev.cells) ∧ ∀ x ∈ l, x.wf
section
variable {H : Type} {enc : TypeId × Value → H} {w : World} {base : Nat} {spare : Nat → Bool} {held : Bool}
theorem evs_sz {n : Nat} {a : Option Addr} {len cap : Nat} {y : DataW H × List MemPlace} (h : DataW.trod enc Try.prog w base spare held n 22 [.slice a len cap] = some y) (hs : Sz Try.prog 22 y.1) : ∃ l : List Ev, l.length = len ∧ EvsIn w a cap l := by
  obtain ⟨l, rfl, h1, h2, h3⟩ := rows_sz (k := 26) ev0 Ev.cells Ev.wf Try.underlying22 (by kernel_rfl) (by omega) (fun n cs y hl h _ => ev_in hl h) h hs
  exact ⟨l, rfl, h1, h2⟩
end
set_option maxHeartbeats 1000000 in
theorem sameInts_u (l : List Int) (a b : Option Addr) (ca cb : Nat) (w : World) (ha : Rows w 1 a ca (l.map chCells)) (hb : Rows w 1 b cb (l.map chCells)) :
    Calls Try.prog 13 #[.slice a l.length ca, .slice b l.length cb] w fun e w' => e = .returned (.bool true) ∧ Below w.heap.size w w' := by
  have hlI : (l.length : Int) ≤ 9223372036854775807 := rows_len ha
  go_enter Try.func13, Try.ntmps13
  go_wp2_with fail
  go_loopw [13] (fun u wr => ∃ k : Nat, k ≤ l.length ∧ u = .int .i64 k ∧ Below w.heap.size w wr) (fun u _ => l.length - (intOf u).toNat)
  case atStart => exact ⟨0, Nat.zero_le _, rfl, Below.refl _ _⟩
  case round =>
    obtain ⟨k, hk, rfl, hbe⟩ := hrel
    by_cases hlt : k < l.length
    · obtain ⟨y, hy, hym⟩ := get_lt l k hlt
      obtain ⟨b1, o1, hix1, hbl1, c1⟩ := ch_ix (ha.later hbe) k y hy
      obtain ⟨b2, o2, hix2, hbl2, c2⟩ := ch_ix (hb.later hbe) k y hy
      have hkI : (k : Int) < l.length := by omega
      go_wp2_with fail
      go_quiet (fail)
      go_wp2
      go_roundw
      case rel => exact ⟨k + 1, by omega, by go_num, below_drewN hbe _⟩
      case measure => simp [intOf]; omega
    · have hk2 : k = l.length := by omega
      subst hk2
      go_wp2
      go_ret
      exact ⟨rfl, hbe⟩
end Go.Proofs.Ytdfnmlcpimiboaa.pg
/- The statements' own events: a taking, a giving back. -/
namespace Go.Proofs.Ytdfnmlcpimiboaa.pg
open Go.ChangeShapes Go.WideShapes Go.ChangeAt Go.RowKit
set_option linter.unusedVariables false
set_option linter.unusedSimpArgs false
set_option maxRecDepth 100000
attribute [local go_sem ↓] Go.wp_at_zero Go.wp_at_succ
def tkEv (g k : Int) : Ev := ⟨g, 0, 0, 55, 0, 0, 0, ⟨2, k, true⟩, ⟨5, g, true⟩, acc0, acc0, acc0, acc0, 2⟩
def tkEv0 (g : Int) : Ev := ⟨g, 0, 0, 55, 0, 0, 0, acc0, acc0, acc0, acc0, acc0, acc0, 2⟩
def evZG : Ev := ⟨0, 0, 0, 0, 0, 0, 0, acc0, acc0, acc0, acc0, acc0, acc0, 0⟩
def tkEv1 (g k : Int) : Ev := ⟨g, 0, 0, 55, 0, 0, 0, ⟨2, k, true⟩, acc0, acc0, acc0, acc0, acc0, 2⟩
def gvEv (g k : Int) : Ev := ⟨g, 0, 0, 56, 0, 0, 0, ⟨2, k, true⟩, ⟨5, g, true⟩, acc0, acc0, acc0, acc0, 2⟩
theorem put3G {W : World} {B o : Nat} {cs : Array Value} {t : TypeId} (h : W.heap[B]? = some (.cells cs t (0, 0))) (ho : o + 2 < cs.size) (a b c : Value) :
    W.there B o 3 ∧ (W.setCells B o [a, b, c]).heap[B]? = some (.cells (((cs.setIfInBounds o a).setIfInBounds (o + 1) b).setIfInBounds (o + 2) c) t (0, 0)) ∧ (∀ k, k ≠ B → (W.setCells B o [a, b, c]).heap[k]? = W.heap[k]?) ∧ ∀ n, n ≤ B → Below n W (W.setCells B o [a, b, c]) := by
  have e1 : W.setCells B o [a, b, c] = W.setRow B (((cs.setIfInBounds o a).setIfInBounds (o + 1) b).setIfInBounds (o + 2) c) := by
    simp only [World.setCells]
    rw [setCell_eq_setRow W B o _ _ _ a h]
    have h1 := setRow_heap W B _ (cs.setIfInBounds o a) _ _ h
    rw [setCell_eq_setRow _ B (o + 1) _ _ _ b h1, setRow_setRow]
    have h2 := setRow_heap W B _ ((cs.setIfInBounds o a).setIfInBounds (o + 1) b) _ _ h
    rw [setCell_eq_setRow _ B (o + 1 + 1) _ _ _ c h2, setRow_setRow]
  refine ⟨fun j hj => ⟨?_, frozen_of_row _ _ _ _ _ h⟩, ?_, ?_, ?_⟩
  · rw [cell_of_row W B (o + j) _ _ _ h, Array.getElem?_eq_getElem (by omega)]
    rfl
  · rw [e1]; exact setRow_heap W B _ _ _ _ h
  · intro k hk
    rw [e1]
    exact setRow_other _ _ _ _ hk
  · intro n hn
    rw [e1]
    exact below_setRow (Below.refl _ _) hn _
theorem infoE_evG (x : Ev) : (Try.prog.info? 55).map (·.size) = some x.cells.toArray.size := infoE26
set_option maxHeartbeats 1000000 in
theorem taking_any (g v : Int) (w : World) : Calls Try.prog 23 #[.int .i64 g, .int .i64 v] w fun e w' => e = .returned (.agg (tkEv g v).cells.toArray) ∧ Below w.heap.size w w' := by
  have huE : Hid (Try.prog.underlying 55 = _) := Try.underlying55
  obtain ⟨Z, hz, hZs, _⟩ := zero_big (P := Try.prog) (t := 55) (n := 26) (by kernel_rfl)
  have hb := boxed2 w (.cells Z 55) (.cells Z 55)
  have hZ00 : ((w.alloc (.cells Z 55)).alloc (.cells Z 55)).heap[w.heap.size]? = some (.cells Z 55) := (Below.heap_alloc _ _ _ (by simp [World.size_alloc])).trans (heap_alloc_new w _)
  have hB00 : ((w.alloc (.cells Z 55)).alloc (.cells Z 55)).heap[w.heap.size + 1]? = some (.cells Z 55) := by
    have := heap_alloc_new (w.alloc (.cells Z 55)) (.cells Z 55)
    rwa [World.size_alloc] at this
  have hS : Z.size = (tkEv0 g).cells.toArray.size := hZs
  have hSz : Z.size = (tkEv g v).cells.toArray.size := hZs
  go_enter Try.func23, Try.ntmps23
  obtain ⟨W0, hW0⟩ : ∃ W0, (w.alloc (.cells Z 55)).alloc (.cells Z 55) = W0 := ⟨_, rfl⟩
  rw [hW0] at hb hZ00 hB00
  have hB0 := setRow_heap W0 (w.heap.size + 1) _ (tkEv0 g).cells.toArray _ _ hB00
  have hZ0 := (setRow_other W0 (w.heap.size + 1) w.heap.size (tkEv0 g).cells.toArray (by omega)).trans hZ00
  have hb0 := below_setRow hb (B := w.heap.size + 1) (by omega) (tkEv0 g).cells.toArray
  obtain ⟨W1, hW1⟩ : ∃ W1, W0.setRow (w.heap.size + 1) (tkEv0 g).cells.toArray = W1 := ⟨_, rfl⟩
  rw [hW1] at hB0 hZ0 hb0
  obtain ⟨t1, B1, o1, b1⟩ := put3G (o := 7) hB0 (by show 9 < 26; omega) (.int .i64 2) (.int .i64 v) (.bool true)
  have B1' : (W1.setCells (w.heap.size + 1) 7 [.int .i64 2, .int .i64 v, .bool true]).heap[w.heap.size + 1]? = some (.cells (tkEv1 g v).cells.toArray 55) := B1
  have Z1 := (o1 w.heap.size (by omega)).trans hZ0
  have bb1 := hb0.trans (b1 w.heap.size (by omega))
  obtain ⟨W2, hW2⟩ : ∃ W2, W1.setCells (w.heap.size + 1) 7 [.int .i64 2, .int .i64 v, .bool true] = W2 := ⟨_, rfl⟩
  rw [hW2] at B1' Z1 bb1
  obtain ⟨t2, B2, o2, b2⟩ := put3G (o := 10) B1' (by show 12 < 26; omega) (.int .i64 5) (.int .i64 g) (.bool true)
  have B2' : (W2.setCells (w.heap.size + 1) 10 [.int .i64 5, .int .i64 g, .bool true]).heap[w.heap.size + 1]? = some (.cells (tkEv g v).cells.toArray 55) := B2
  have Z2 := (o2 w.heap.size (by omega)).trans Z1
  have bb2 := bb1.trans (b2 w.heap.size (by omega))
  obtain ⟨W3, hW3⟩ : ∃ W3, W2.setCells (w.heap.size + 1) 10 [.int .i64 5, .int .i64 g, .bool true] = W3 := ⟨_, rfl⟩
  rw [hW3] at B2' Z2 bb2
  have hall : Hid (W1.there (w.heap.size + 1) 7 3 ∧ W2.there (w.heap.size + 1) 10 3 ∧ W3.heap[w.heap.size + 1]? = some (.cells (tkEv g v).cells.toArray 55) ∧ W3.heap[w.heap.size]? = some (.cells Z 55) ∧ Below w.heap.size w W3) := ⟨t1, t2, B2', Z2, bb2⟩
  have hW0H : Hid ((w.alloc (.cells Z 55)).alloc (.cells Z 55) = W0) := hW0
  have hB0H : Hid (W0.heap[w.heap.size + 1]? = some (.cells Z 55)) := hB00
  have hW1H : Hid (W0.setRow (w.heap.size + 1) (tkEv0 g).cells.toArray = W1) := hW1
  have hW2H : Hid (W1.setCells (w.heap.size + 1) 7 [.int .i64 2, .int .i64 v, .bool true] = W2) := hW2
  have hW3H : Hid (W2.setCells (w.heap.size + 1) 10 [.int .i64 5, .int .i64 g, .bool true] = W3) := hW3
  have hzH : Hid (∀ w, (zeroValue 55).run Try.prog w = .ok (.agg Z) w) := hz
  have hSH : Hid (Z.size = (tkEv0 g).cells.toArray.size ∧ Z.size = (tkEv g v).cells.toArray.size) := ⟨hS, hSz⟩
  clear hW0 hW1 hW2 hW3 t1 t2 B1 B1' B2 B2' Z1 Z2 bb1 bb2 o1 o2 b1 b2 hb hb0 hZ0 hB0 hZ00 hB00 hz hS hSz hZs
  go_wp2_with (first
    | (refine wpList_alloc_big rfl 55 rfl hzH.out ?_; (try rw [World.size_alloc]); (try rw [hW0H.out]))
    | (refine wpList_store_row rfl 55 _ _ rfl (w.heap.size + 1) (tkEv0 g).cells.toArray rfl rfl _ _ hB0H.out (infoE_evG (tkEv0 g)) hSH.out.1 (ev_one (tkEv0 g)) ?_; rw [hW1H.out])
    | (refine wpList_store_mid rfl 52 _ _ rfl (w.heap.size + 1) 7 #[.int .i64 2, .int .i64 v, .bool true] rfl rfl hall.out.1 (by kernel_rfl) (by simp [Value.oneCell']) ?_; rw [show W1.setCells (w.heap.size + 1) 7 _ = W2 from hW2H.out])
    | (refine wpList_store_mid rfl 52 _ _ rfl (w.heap.size + 1) 10 #[.int .i64 5, .int .i64 g, .bool true] rfl rfl hall.out.2.1 (by kernel_rfl) (by simp [Value.oneCell']) ?_; rw [show W2.setCells (w.heap.size + 1) 10 _ = W3 from hW3H.out])
    | (refine wpList_load_row rfl 55 _ rfl (w.heap.size + 1) rfl _ _ _ _ hall.out.2.2.1 huE.out rfl (infoE_evG _) ?_)
    | (refine wpList_store_row rfl 55 _ _ rfl w.heap.size (tkEv g v).cells.toArray rfl rfl _ _ hall.out.2.2.2.1 (infoE_evG (tkEv g v)) hSH.out.2 (ev_one (tkEv g v)) ?_))
  refine bodyPost_ret (results_cell_row Try.results23 _ _ w.heap.size 55 _ (0, 0) _ rfl (setRow_heap W3 w.heap.size _ _ _ _ hall.out.2.2.2.1) huE.out rfl (infoE_evG (tkEv g v))) rfl ⟨rfl, below_setRow hall.out.2.2.2.2 (Nat.le_refl _) _⟩
set_option maxHeartbeats 1000000 in
theorem giving_any (g v : Int) (w : World) : Calls Try.prog 30 #[.int .i64 g, .int .i64 v] w fun e w' => e = .returned (.agg (gvEv g v).cells.toArray) ∧ Below w.heap.size w w' := by
  have huE : Hid (Try.prog.underlying 55 = _) := Try.underlying55
  obtain ⟨Z, hz, hZs, _⟩ := zero_big (P := Try.prog) (t := 55) (n := 26) (by kernel_rfl)
  have hzH : Hid (∀ w, (zeroValue 55).run Try.prog w = .ok (.agg Z) w) := hz
  have hSz : Hid (Z.size = (tkEv g v).cells.toArray.size ∧ Z.size = (gvEv g v).cells.toArray.size) := ⟨hZs, hZs⟩
  have cT : ∀ wx, Calls Try.prog 23 #[.int .i64 g, .int .i64 v] wx _ := fun wx => taking_any g v wx
  clear hz hZs
  go_enter Try.func30, Try.ntmps30
  go_upto_region 2 with (first
    | (refine wpList_alloc_big rfl 55 rfl hzH.out ?_)
    | (go_at_call 23; (with_reducible refine (cT _).mono ?_); rintro e w1 ⟨rfl, hb1⟩; (have h1 : Hid (Below w.heap.size w w1 ∧ w1.heap[w.heap.size]? = some (.cells Z 55)) := ⟨bthen (boxed _ _) hb1, blk_onG (heap_alloc_new _ _) hb1⟩); clear hb1)
    | (refine wpList_store_new rfl 55 _ _ rfl rfl _ (tkEv g v).cells.toArray rfl (infoE_evG _) hSz.out.1 (ev_one (tkEv g v)) ?_))
  change Code.wp _ _ _ _ (w1.alloc (objE (tkEv g v)))
  have h2 : Hid (Below w.heap.size w (w1.alloc (objE (tkEv g v))) ∧ (w1.alloc (objE (tkEv g v))).heap[w.heap.size]? = some (.cells Z 55) ∧ (w1.alloc (objE (tkEv g v))).heap[w1.heap.size]? = some (objE (tkEv g v)) ∧ w.heap.size < w1.heap.size) := ⟨bthen h1.out.1 (boxed _ _), blk_onG h1.out.2 (boxed _ _), heap_alloc_new _ _, (Array.getElem?_eq_some_iff.mp h1.out.2).1⟩
  simp only [Act.put, List.getElem_toArray, List.getElem_cons_succ, List.getElem_cons_zero, List.setIfInBounds_toArray, List.set_cons_zero, List.set_cons_succ]
  generalize w1.alloc (objE (tkEv g v)) = X at *
  generalize w1.heap.size = C at *
  clear h1
  have k3 : X.cell? ⟨C, 3, none⟩ = some (.int .i64 55) := cell_lcG h2.out.2.2.1 rfl
  have f3 : X.frozen? ⟨C, 3, none⟩ = false := frozen_of_row _ _ _ _ _ h2.out.2.2.1
  go_upto_region 3 with ((with_reducible refine at_storeG 50 _ _ rfl ?_); refine stopG_out ?_; refine wpList_puti rfl 50 _ _ rfl ⟨C, 3, none⟩ rfl 56 rfl (by kernel_rfl) _ k3 f3 fun X3 hX3 => ?_; (have h3 : Hid (Below w.heap.size w X3 ∧ X3.heap[w.heap.size]? = some (.cells Z 55) ∧ X3.heap[C]? = some (objE (gvEv g v))) := ⟨by (rw [hX3]; exact h2.out.1.setCell (p := ⟨C, 3, none⟩) (by have := h2.out.2.2.2; show _ ≤ C; omega) _), by (rw [hX3]; exact (heap_setCell_other _ ⟨C, 3, none⟩ w.heap.size _ (by have := h2.out.2.2.2; show _ ≠ C; omega)).trans h2.out.2.1), by (rw [hX3]; exact heap_setCell_same X C 3 _ _ _ h2.out.2.2.1)⟩); clear hX3 k3 f3)
  go_wp2_with (first
    | ((with_reducible refine at_loadG 55 _ rfl ?_); refine stopG_out ?_; refine wpList_load_row rfl 55 _ rfl C rfl _ _ _ _ h3.out.2.2 huE.out rfl (infoE_evG _) ?_)
    | ((with_reducible refine at_storeG 55 _ _ rfl ?_); refine stopG_out ?_; refine wpList_store_row rfl 55 _ _ rfl w.heap.size (gvEv g v).cells.toArray rfl rfl _ _ h3.out.2.1 (infoE_evG (gvEv g v)) hSz.out.2 (ev_one (gvEv g v)) ?_))
  refine bodyPost_ret (results_cell_row Try.results30 _ _ w.heap.size 55 _ (0, 0) _ rfl (setRow_heap X3 w.heap.size _ _ _ _ h3.out.2.1) huE.out rfl (infoE_evG (gvEv g v))) rfl ⟨rfl, below_setRow h3.out.1 (Nat.le_refl _) _⟩
end Go.Proofs.Ytdfnmlcpimiboaa.pg
/- Lists that are the same: edges, events, rows. -/
namespace Go.Proofs.Ytdfnmlcpimiboaa.pg
open Go.ChangeShapes Go.WideShapes Go.ChangeAt Go.RowKit Go.Shelf
open Go.Maps (Keyed IsMap Tidy)
set_option linter.unusedVariables false
set_option linter.unusedSimpArgs false
set_option maxRecDepth 100000
attribute [local go_sem ↓] Go.wp_at_zero Go.wp_at_succ
def RdbG (n : Nat) (t : TypeId) (cs : List Value) : Prop := ∃ y, DataW.trod (H := Unit) (fun _ => ()) Try.prog default 0 (fun _ => true) true n t cs = some y
theorem mapM_exG {α β : Type} (f : α → Option β) : ∀ (l : List α), (∀ x ∈ l, ∃ y, f x = some y) → ∃ ys, l.mapM f = some ys
  | [], _ => ⟨[], rfl⟩
  | x :: l, h => by
    obtain ⟨y, hy⟩ := h x (by simp)
    obtain ⟨ys, hys⟩ := mapM_exG f l fun z hz => h z (by simp [hz])
    exact ⟨y :: ys, by simp [List.mapM_cons, hy, hys]⟩
theorem rdb_intG {t : TypeId} (ht : Try.prog.underlying t = some (.int .i64)) (n : Nat) {z : Int} (hz : I64 z) : RdbG (n + 1) t [.int .i64 z] :=
  ⟨_, trod_int_mk n ht (by simp [Lit.wf, IntKind.min, IntKind.max, IntKind.bits, IntKind.signed]; exact hz)⟩
theorem rdb_boolG {t : TypeId} (ht : Try.prog.underlying t = some .bool) (n : Nat) (z : Bool) : RdbG (n + 1) t [.bool z] :=
  ⟨(.lit (.bool z), []), by simp [DataW.trod, ht, Lit.wf]⟩
theorem rdb_structG {t : TypeId} {fs : Array Field} {n : Nat} {cs : List Value} (ht : Try.prog.underlying t = some (.struct fs)) (hl : cs.length = Try.prog.cellsOf t) (h : ∀ f ∈ fs.toList, RdbG n f.type ((cs.drop f.offset).take (Try.prog.cellsOf f.type))) : RdbG (n + 1) t cs := by
  obtain ⟨xs, hxs⟩ := mapM_exG (fun f : Field => DataW.trod (H := Unit) (fun _ => ()) Try.prog default 0 (fun _ => true) true n f.type ((cs.drop f.offset).take (Try.prog.cellsOf f.type))) fs.toList h
  exact ⟨_, trod_struct_mk ht hl hxs⟩
theorem rdb_arrayG {t e : TypeId} {k n m : Nat} {cs : List Value} (ht : Try.prog.underlying t = some (.array k e)) (hl : cs.length = Try.prog.cellsOf t) (h : ∀ i, i < k → RdbG n e ((cs.drop (i * Try.prog.cellsOf e)).take (Try.prog.cellsOf e))) : RdbG (n + 1) t cs := by
  obtain ⟨xs, hxs⟩ := mapM_exG (fun i : Nat => DataW.trod (H := Unit) (fun _ => ()) Try.prog default 0 (fun _ => true) true n e ((cs.drop (i * Try.prog.cellsOf e)).take (Try.prog.cellsOf e))) (List.range k) (fun i hi => h i (List.mem_range.mp hi))
  refine ⟨(.agg (xs.map (·.1)), xs.flatMap (·.2)), ?_⟩
  unfold DataW.trod
  rw [ht]
  split <;> simp_all
theorem eq_deepG {t : TypeId} (K : Keyed Try.prog t) {a b : Array Value} {la lb : Lit} (ha : keyOf Try.prog t (.agg a) = some la) (hb : keyOf Try.prog t (.agg b) = some lb) (hk : Try.prog.keyTypeAt 6 t = true) (hw : (match Try.prog.underlying t with | some (.array _ _) | some (.struct _) => true | _ => false) = true) (R : Bool) (hR : R = true ↔ a = b) (w : World) :
    (Op.equalIn 10000 t (.agg a) (.agg b)).run Try.prog w = .ok R w := by
  obtain ⟨r, hr, hiff⟩ := run_equal_deep (P := Try.prog) w (m := 6) (by omega) (k := t) hk hw ha hb
  have e : r = R := by
    rw [Bool.eq_iff_iff, hiff, hR]
    constructor
    · intro q
      have := K.inj ha (q ▸ hb)
      simpa using this
    · intro q
      subst q
      rw [ha] at hb
      exact Option.some.inj hb
  rw [e] at hr
  exact hr
theorem rdb_accG {x : Acc} (h : x.wf) (n : Nat) : RdbG (n + 2) 52 x.cells := by
  refine rdb_structG Try.underlying52 (by show 3 = _; kernel_rfl) fun f hf => ?_
  simp only [List.mem_cons, List.not_mem_nil, or_false] at hf
  have c1 : Try.prog.cellsOf 3 = 1 := by kernel_rfl
  have cb : Try.prog.cellsOf 4 = 1 := by kernel_rfl
  rcases hf with rfl | rfl | rfl
  · simp only [c1]; exact rdb_intG Try.underlying3 _ h.1
  · simp only [c1]; exact rdb_intG Try.underlying3 _ h.2
  · simp only [cb]; exact rdb_boolG Try.underlying4 _ _
theorem rdb_evG {x : Ev} (h : x.wf) (n : Nat) : RdbG (n + 4) 55 x.cells := by
  refine rdb_structG Try.underlying55 (by show 26 = _; kernel_rfl) fun f hf => ?_
  simp only [List.mem_cons, List.not_mem_nil, or_false] at hf
  have c1 : Try.prog.cellsOf 3 = 1 := by kernel_rfl
  have c2 : Try.prog.cellsOf 2 = 1 := by kernel_rfl
  have c3 : Try.prog.cellsOf 50 = 1 := by kernel_rfl
  have cA : Try.prog.cellsOf 53 = 18 := by kernel_rfl
  have ca : Try.prog.cellsOf 52 = 3 := by kernel_rfl
  obtain ⟨⟨h0, h1, h2, h3, h4, h5, h6⟩, hl, hn⟩ := h
  rcases hf with rfl | rfl | rfl | rfl | rfl | rfl | rfl | rfl | rfl
  · simp only [c1]; exact rdb_intG Try.underlying3 _ h0
  · simp only [c1]; exact rdb_intG Try.underlying3 _ h1
  · simp only [c1]; exact rdb_intG Try.underlying3 _ h2
  · simp only [c3]; exact rdb_intG Try.underlying50 _ h3
  · simp only [c1]; exact rdb_intG Try.underlying3 _ h4
  · simp only [c2]; exact rdb_intG Try.underlying2 _ h5
  · simp only [c2]; exact rdb_intG Try.underlying2 _ h6
  · simp only [cA]
    refine rdb_arrayG (m := 0) Try.underlying53 (by rw [cA]; rfl) fun i hi => ?_
    rw [ca]
    match i, hi with
    | 0, _ => exact rdb_accG (hl x.t0 (by simp [Ev.list])) _
    | 1, _ => exact rdb_accG (hl x.t1 (by simp [Ev.list])) _
    | 2, _ => exact rdb_accG (hl x.t2 (by simp [Ev.list])) _
    | 3, _ => exact rdb_accG (hl x.t3 (by simp [Ev.list])) _
    | 4, _ => exact rdb_accG (hl x.t4 (by simp [Ev.list])) _
    | 5, _ => exact rdb_accG (hl x.t5 (by simp [Ev.list])) _
  · simp only [c1]; exact rdb_intG Try.underlying3 _ hn
theorem lawEvG : Keyed Try.prog 55 := Keyed.of_law (deep_law_laid (by kernel_rfl) (m := 6) (by omega) (of_decide_eq_true (by kernel_rfl)) (by kernel_rfl) (by rw [Try.underlying55]))
theorem key_evG {x : Ev} (h : x.wf) : ∃ l, keyOf Try.prog 55 (.agg x.cells.toArray) = some l := by
  obtain ⟨⟨d, p⟩, hy⟩ := rdb_evG h 0
  exact ⟨_, (keyOf_asKey (by kernel_rfl) (by rw [Try.underlying55]) (by simp only [Value.formed, Try.underlying55, List.size_toArray]; kernel_rfl) ⟨_, hy⟩).1⟩
theorem ev_injG {x y : Ev} (h : x.cells = y.cells) : x = y := by
  obtain ⟨a0, a1, a2, a3, a4, a5, a6, ⟨b0, b1, b2⟩, ⟨b3, b4, b5⟩, ⟨b6, b7, b8⟩, ⟨b9, b10, b11⟩, ⟨b12, b13, b14⟩, ⟨b15, b16, b17⟩, c⟩ := x
  obtain ⟨a0', a1', a2', a3', a4', a5', a6', ⟨b0', b1', b2'⟩, ⟨b3', b4', b5'⟩, ⟨b6', b7', b8'⟩, ⟨b9', b10', b11'⟩, ⟨b12', b13', b14'⟩, ⟨b15', b16', b17'⟩, c'⟩ := y
  simp only [Ev.cells, List.cons.injEq, Value.int.injEq, Value.bool.injEq, true_and, and_true] at h
  simp only [Ev.mk.injEq, Acc.mk.injEq]
  obtain ⟨h0, h1, h2, h3, h4, h5, h6, g0, g1, g2, g3, g4, g5, g6, g7, g8, g9, g10, g11, g12, g13, g14, g15, g16, g17, hc⟩ := h
  exact ⟨h0, h1, h2, h3, h4, h5, h6, ⟨g0, g1, g2⟩, ⟨g3, g4, g5⟩, ⟨g6, g7, g8⟩, ⟨g9, g10, g11⟩, ⟨g12, g13, g14⟩, ⟨g15, g16, g17⟩, hc⟩
/-- Two events are equal just where they say the same. -/
theorem eq_evG {x y : Ev} (hx : x.wf) (hy : y.wf) (R : Bool) (hR : R = true ↔ x = y) (w : World) : (Op.equalIn 10000 55 (.agg x.cells.toArray) (.agg y.cells.toArray)).run Try.prog w = .ok R w := by
  obtain ⟨la, ha⟩ := key_evG hx
  obtain ⟨lb, hb⟩ := key_evG hy
  exact eq_deepG lawEvG ha hb (by kernel_rfl) (by rw [Try.underlying55]) R (hR.trans ⟨fun q => by rw [q], fun q => ev_injG (by simpa using q)⟩) w
theorem ne_evG {x y : Ev} (hx : x.wf) (hy : y.wf) (R : Bool) (hR : R = true ↔ ¬ x = y) (w : World) : (binOp .neq 55 (.agg x.cells.toArray) (.agg y.cells.toArray)).run Try.prog w = .ok (.bool R) w := by
  rw [run_neq_struct, eq_evG hx hy (!R) (by cases R <;> simp at hR ⊢ <;> exact hR)]
  cases R <;> rfl
theorem ne_selfG {x : Ev} (hx : x.wf) (w : World) : (binOp .neq 55 (.agg x.cells.toArray) (.agg x.cells.toArray)).run Try.prog w = .ok (.bool false) w := ne_evG hx hx false (by simp) w
theorem guard_neEv {x : Ev} (hx : x.wf) (p q : Operand) (w : World) : ((do
    eqGuard .neq 55 p q (.agg x.cells.toArray) (.agg x.cells.toArray)
    binOp .neq 55 (.agg x.cells.toArray) (.agg x.cells.toArray)) : Sem Value).run Try.prog w = .ok (.bool false) w := by
  have hm : Try.prog.eqGuardType Try.prog.depth 55 = false := by kernel_rfl
  simp only [Sem.run_bind, run_eqGuard_agg (P := Try.prog) w .neq 55 p q _ _ hm, Result.andThen_ok]
  exact ne_selfG hx w
theorem run_neEd (x : Ed) (w : World) : (binOp .neq 71 (.agg #[.int .i64 x.fr, .int .i64 x.tw, .int .i64 x.go, .int .i64 x.ev]) (.agg #[.int .i64 x.fr, .int .i64 x.tw, .int .i64 x.go, .int .i64 x.ev])).run Try.prog w = .ok (.bool false) w := by
  have u1 := Try.underlying3
  have a1 := Try.isAgg3
  have z1 := Try.sizeOf3
  have hS : Try.prog.underlying 71 = some (.struct (Try.prog.fieldsOf 71)) := by kernel_rfl
  have hp : Try.prog.stoodInHeld 71 = false := by kernel_rfl
  rw [run_neq_struct, show (10000 : Nat) = 9999 + 1 from rfl, run_equalIn_agg w 9999 71 _ _ hS hp]
  simp only [Program.fieldsOf, Try.underlying71]
  go_simp
  try simp
theorem guard_neEd (x : Ed) (p q : Operand) (w : World) : ((do
    eqGuard .neq 71 p q (.agg #[.int .i64 x.fr, .int .i64 x.tw, .int .i64 x.go, .int .i64 x.ev]) (.agg #[.int .i64 x.fr, .int .i64 x.tw, .int .i64 x.go, .int .i64 x.ev])
    binOp .neq 71 (.agg #[.int .i64 x.fr, .int .i64 x.tw, .int .i64 x.go, .int .i64 x.ev]) (.agg #[.int .i64 x.fr, .int .i64 x.tw, .int .i64 x.go, .int .i64 x.ev])) : Sem Value).run Try.prog w = .ok (.bool false) w := by
  have hm : Try.prog.eqGuardType Try.prog.depth 71 = false := by kernel_rfl
  simp only [Sem.run_bind, run_eqGuard_agg (P := Try.prog) w .neq 71 p q _ _ hm, Result.andThen_ok]
  exact run_neEd x w
/-- How a list of rings is read. -/
def RgR (w : World) (a : Option Addr) (c : Nat) (P : List Rng) : Prop := Rows w 1 a c (P.map Rng.cs) ∧ ∀ s ∈ P, Rows w 1 s.1 s.2.2 ((asZ s.2.1).map chCells)
theorem RgR.later {w w' : World} {a : Option Addr} {c : Nat} {P : List Rng} (h : RgR w a c P) (hb : Below w.heap.size w w') : RgR w' a c P := ⟨h.1.later hb, fun s hs => (h.2 s hs).later hb⟩
theorem rgR_of {lo : Nat} {w : World} {a : Option Addr} {c : Nat} {P : List Rng} (h : RgL lo w a c P) : RgR w a c P := ⟨rg_rows h, fun s hs => own_rows (h.i s hs) (asZ_one _)⟩
theorem rr_ix {w : World} {a : Option Addr} {c : Nat} {P : List Rng} (h : RgR w a c P) (i : Nat) (s : Rng) (hi : P[i]? = some s) :
    ∃ b o, (∀ wx, (Instr.indexAt 39 (.slice a P.length c) (.int .i64 (i : Int))).run Try.prog wx = .ok (.pointer (some ⟨b, o, none⟩)) wx) ∧ b < w.heap.size ∧ w.cell? ⟨b, o, none⟩ = some (.slice s.1 s.2.1.length s.2.2) := by
  obtain ⟨b, o, hr, hlt, hc⟩ := h.1.ix 39 29 Try.underlying39 (by kernel_rfl) (fun wx => Try.sizeOf29 wx) i (row := Rng.cs s) (by simp [hi])
  rw [List.length_map] at hr
  exact ⟨b, o, hr, hlt, hc 0 _ rfl⟩
section
variable {w : World} {a b : Option Addr} {ca cb : Nat}
set_option maxHeartbeats 2000000 in
theorem sameEdges_any (E : List Ed) (ha : Rows w 4 a ca (E.map Ed.cells)) (hb : Rows w 4 b cb (E.map Ed.cells)) : Calls Try.prog 12 #[.slice a E.length ca, .slice b E.length cb] w fun e w' => e = .returned (.bool true) ∧ Below w.heap.size w w' := by
  have hlI := rows_len ha
  have haH : Hid (Rows w 4 a ca (E.map Ed.cells)) := ha
  have hbH : Hid (Rows w 4 b cb (E.map Ed.cells)) := hb
  clear ha hb
  go_enter Try.func12, Try.ntmps12
  go_wp2_with fail
  go_loopw [13] (fun u wr => ∃ k : Nat, k ≤ E.length ∧ u = .int .i64 k ∧ Hid (Below w.heap.size w wr)) (fun u _ => E.length - (intOf u).toNat)
  case atStart => exact ⟨0, Nat.zero_le _, rfl, Below.refl _ _⟩
  case round =>
    obtain ⟨k, hk, rfl, hbe⟩ := hrel
    by_cases hlt : k < E.length
    · have hkI : (k : Int) < E.length := by omega
      obtain ⟨y, hy⟩ : ∃ y, E[k]? = some y := ⟨_, List.getElem?_eq_getElem hlt⟩
      obtain ⟨b1, o1, x1, l1, r1⟩ := ed_ixG (haH.out.later hbe.out) k y hy
      obtain ⟨b2, o2, x2, l2, r2⟩ := ed_ixG (hbH.out.later hbe.out) k y hy
      go_upto_region 6 with fail
      have hS : Hid (Below wr.heap.size wr wr.drew) := bey_drew wr
      have hRd : Hid (∀ w', Below wr.heap.size wr w' → w'.rangeAt b1 o1 y.cells ∧ w'.rangeAt b2 o2 y.cells) := fun w' z => ⟨range_blkG r1 (z.block _ l1), range_blkG r2 (z.block _ l2)⟩
      clear r1 r2 l1 l2 hy
      refine wp_region_noPanic ?_
      refine wp_region_held_drew (S := fun w' => Below wr.heap.size wr w') (by kernel_rfl) hS.out (fun _ => ?_)
      refine reg_move (i := 0) rfl (by kernel_rfl) (by kernel_rfl) (by kernel_rfl) (fun _ _ _ _ h => h) rfl (.slice a E.length ca) (fun _ => rfl) hS.out ?_
      simp only [Act.put, List.getElem_toArray, List.getElem_cons_succ, List.getElem_cons_zero, List.setIfInBounds_toArray, List.set_cons_zero, List.set_cons_succ]
      refine reg_move (i := 1) rfl (by kernel_rfl) (by kernel_rfl) (by kernel_rfl) (fun _ _ _ _ h => h) rfl (.int .i64 (k : Int)) (fun _ => rfl) hS.out ?_
      simp only [Act.put, List.getElem_toArray, List.getElem_cons_succ, List.getElem_cons_zero, List.setIfInBounds_toArray, List.set_cons_zero, List.set_cons_succ]
      refine reg_move (i := 2) rfl (by kernel_rfl) (by kernel_rfl) (by kernel_rfl) (fun _ _ _ _ h => h) rfl (.pointer (some ⟨b1, o1, none⟩)) (fun wx => by unfold execOp; exact run_value_of (x1 wx)) hS.out ?_
      simp only [Act.put, List.getElem_toArray, List.getElem_cons_succ, List.getElem_cons_zero, List.setIfInBounds_toArray, List.set_cons_zero, List.set_cons_succ]
      refine reg_load (i := 3) rfl (by kernel_rfl) (by kernel_rfl) (by kernel_rfl) (fun _ _ _ _ h => h) rfl 71 _ rfl b1 o1 rfl [.int .i64 y.fr, .int .i64 y.tw, .int .i64 y.go, .int .i64 y.ev] _ (fun w' z => (hRd.out w' z).1) Try.underlying71 rfl infoEd4 hS.out ?_
      simp only [Act.put, List.getElem_toArray, List.getElem_cons_succ, List.getElem_cons_zero, List.setIfInBounds_toArray, List.set_cons_zero, List.set_cons_succ]
      refine reg_move (i := 4) rfl (by kernel_rfl) (by kernel_rfl) (by kernel_rfl) (fun _ _ _ _ h => h) rfl (.slice b E.length cb) (fun _ => rfl) hS.out ?_
      simp only [Act.put, List.getElem_toArray, List.getElem_cons_succ, List.getElem_cons_zero, List.setIfInBounds_toArray, List.set_cons_zero, List.set_cons_succ]
      refine reg_move (i := 5) rfl (by kernel_rfl) (by kernel_rfl) (by kernel_rfl) (fun _ _ _ _ h => h) rfl (.int .i64 (k : Int)) (fun _ => rfl) hS.out ?_
      simp only [Act.put, List.getElem_toArray, List.getElem_cons_succ, List.getElem_cons_zero, List.setIfInBounds_toArray, List.set_cons_zero, List.set_cons_succ]
      refine reg_move (i := 6) rfl (by kernel_rfl) (by kernel_rfl) (by kernel_rfl) (fun _ _ _ _ h => h) rfl (.pointer (some ⟨b2, o2, none⟩)) (fun wx => by unfold execOp; exact run_value_of (x2 wx)) hS.out ?_
      simp only [Act.put, List.getElem_toArray, List.getElem_cons_succ, List.getElem_cons_zero, List.setIfInBounds_toArray, List.set_cons_zero, List.set_cons_succ]
      refine reg_load (i := 7) rfl (by kernel_rfl) (by kernel_rfl) (by kernel_rfl) (fun _ _ _ _ h => h) rfl 71 _ rfl b2 o2 rfl [.int .i64 y.fr, .int .i64 y.tw, .int .i64 y.go, .int .i64 y.ev] _ (fun w' z => (hRd.out w' z).2) Try.underlying71 rfl infoEd4 hS.out ?_
      simp only [Act.put, List.getElem_toArray, List.getElem_cons_succ, List.getElem_cons_zero, List.setIfInBounds_toArray, List.set_cons_zero, List.set_cons_succ]
      refine reg_move (i := 8) rfl (by kernel_rfl) (by kernel_rfl) (by kernel_rfl) (fun _ _ _ _ h => h) rfl (.bool false) (fun wx => by unfold execOp; exact run_value_of (guard_neEd y _ _ wx)) hS.out ?_
      simp only [Act.put, List.getElem_toArray, List.getElem_cons_succ, List.getElem_cons_zero, List.setIfInBounds_toArray, List.set_cons_zero, List.set_cons_succ]
      refine wpAnyH_done (by kernel_rfl) (NoPanic.normal ?_) _
      have hb9 : Hid (Below w.heap.size w wr.drew) := bthen hbe.out hS.out
      go_wp2
      go_roundw
      case rel => exact ⟨k + 1, by omega, by go_num, hb9⟩
      case measure => simp [intOf]; omega
    · have hk2 : k = E.length := by omega
      have hkI : ¬ (k : Int) < E.length := by omega
      go_wp2
      go_ret
      exact ⟨rfl, hbe.out⟩
set_option maxHeartbeats 2000000 in
theorem sameEvs_any (l : List Ev) (hwf : ∀ x ∈ l, x.wf) (ha : Rows w 26 a ca (l.map Ev.cells)) (hb : Rows w 26 b cb (l.map Ev.cells)) : Calls Try.prog 14 #[.slice a l.length ca, .slice b l.length cb] w fun e w' => e = .returned (.bool true) ∧ Below w.heap.size w w' := by
  have hlI := rows_len ha
  have haH : Hid (Rows w 26 a ca (l.map Ev.cells)) := ha
  have hbH : Hid (Rows w 26 b cb (l.map Ev.cells)) := hb
  have hwfH : Hid (∀ x ∈ l, x.wf) := hwf
  clear ha hb hwf
  go_enter Try.func14, Try.ntmps14
  go_wp2_with fail
  go_loopw [13] (fun u wr => ∃ k : Nat, k ≤ l.length ∧ u = .int .i64 k ∧ Hid (Below w.heap.size w wr)) (fun u _ => l.length - (intOf u).toNat)
  case atStart => exact ⟨0, Nat.zero_le _, rfl, Below.refl _ _⟩
  case round =>
    obtain ⟨k, hk, rfl, hbe⟩ := hrel
    by_cases hlt : k < l.length
    · have hkI : (k : Int) < l.length := by omega
      obtain ⟨y, hy⟩ : ∃ y, l[k]? = some y := ⟨_, List.getElem?_eq_getElem hlt⟩
      obtain ⟨b1, o1, x1, l1, r1⟩ := ev_row (haH.out.later hbe.out) k y hy
      obtain ⟨b2, o2, x2, l2, r2⟩ := ev_row (hbH.out.later hbe.out) k y hy
      have hne := fun p q wx => guard_neEv (hwfH.out y (List.mem_of_getElem? hy)) p q wx
      go_upto_region 6 with fail
      have hS : Hid (Below wr.heap.size wr wr.drew) := bey_drew wr
      have hRd : Hid (∀ w', Below wr.heap.size wr w' → w'.rangeAt b1 o1 y.cells ∧ w'.rangeAt b2 o2 y.cells) := fun w' z => ⟨range_blkG r1 (z.block _ l1), range_blkG r2 (z.block _ l2)⟩
      clear r1 r2 l1 l2 hy
      refine wp_region_noPanic ?_
      refine wp_region_held_drew (S := fun w' => Below wr.heap.size wr w') (by kernel_rfl) hS.out (fun _ => ?_)
      refine reg_move (i := 0) rfl (by kernel_rfl) (by kernel_rfl) (by kernel_rfl) (fun _ _ _ _ h => h) rfl (.slice a l.length ca) (fun _ => rfl) hS.out ?_
      simp only [Act.put, List.getElem_toArray, List.getElem_cons_succ, List.getElem_cons_zero, List.setIfInBounds_toArray, List.set_cons_zero, List.set_cons_succ]
      refine reg_move (i := 1) rfl (by kernel_rfl) (by kernel_rfl) (by kernel_rfl) (fun _ _ _ _ h => h) rfl (.int .i64 (k : Int)) (fun _ => rfl) hS.out ?_
      simp only [Act.put, List.getElem_toArray, List.getElem_cons_succ, List.getElem_cons_zero, List.setIfInBounds_toArray, List.set_cons_zero, List.set_cons_succ]
      refine reg_move (i := 2) rfl (by kernel_rfl) (by kernel_rfl) (by kernel_rfl) (fun _ _ _ _ h => h) rfl (.pointer (some ⟨b1, o1, none⟩)) (fun wx => by unfold execOp; exact run_value_of (x1 wx)) hS.out ?_
      simp only [Act.put, List.getElem_toArray, List.getElem_cons_succ, List.getElem_cons_zero, List.setIfInBounds_toArray, List.set_cons_zero, List.set_cons_succ]
      refine reg_load (i := 3) rfl (by kernel_rfl) (by kernel_rfl) (by kernel_rfl) (fun _ _ _ _ h => h) rfl 55 _ rfl b1 o1 rfl y.cells _ (fun w' z => (hRd.out w' z).1) Try.underlying55 rfl infoE26 hS.out ?_
      simp only [Act.put, List.getElem_toArray, List.getElem_cons_succ, List.getElem_cons_zero, List.setIfInBounds_toArray, List.set_cons_zero, List.set_cons_succ]
      refine reg_move (i := 4) rfl (by kernel_rfl) (by kernel_rfl) (by kernel_rfl) (fun _ _ _ _ h => h) rfl (.slice b l.length cb) (fun _ => rfl) hS.out ?_
      simp only [Act.put, List.getElem_toArray, List.getElem_cons_succ, List.getElem_cons_zero, List.setIfInBounds_toArray, List.set_cons_zero, List.set_cons_succ]
      refine reg_move (i := 5) rfl (by kernel_rfl) (by kernel_rfl) (by kernel_rfl) (fun _ _ _ _ h => h) rfl (.int .i64 (k : Int)) (fun _ => rfl) hS.out ?_
      simp only [Act.put, List.getElem_toArray, List.getElem_cons_succ, List.getElem_cons_zero, List.setIfInBounds_toArray, List.set_cons_zero, List.set_cons_succ]
      refine reg_move (i := 6) rfl (by kernel_rfl) (by kernel_rfl) (by kernel_rfl) (fun _ _ _ _ h => h) rfl (.pointer (some ⟨b2, o2, none⟩)) (fun wx => by unfold execOp; exact run_value_of (x2 wx)) hS.out ?_
      simp only [Act.put, List.getElem_toArray, List.getElem_cons_succ, List.getElem_cons_zero, List.setIfInBounds_toArray, List.set_cons_zero, List.set_cons_succ]
      refine reg_load (i := 7) rfl (by kernel_rfl) (by kernel_rfl) (by kernel_rfl) (fun _ _ _ _ h => h) rfl 55 _ rfl b2 o2 rfl y.cells _ (fun w' z => (hRd.out w' z).2) Try.underlying55 rfl infoE26 hS.out ?_
      simp only [Act.put, List.getElem_toArray, List.getElem_cons_succ, List.getElem_cons_zero, List.setIfInBounds_toArray, List.set_cons_zero, List.set_cons_succ]
      refine reg_move (i := 8) rfl (by kernel_rfl) (by kernel_rfl) (by kernel_rfl) (fun _ _ _ _ h => h) rfl (.bool false) (fun wx => by unfold execOp; exact run_value_of (hne _ _ wx)) hS.out ?_
      simp only [Act.put, List.getElem_toArray, List.getElem_cons_succ, List.getElem_cons_zero, List.setIfInBounds_toArray, List.set_cons_zero, List.set_cons_succ]
      refine wpAnyH_done (by kernel_rfl) (NoPanic.normal ?_) _
      have hb9 : Hid (Below w.heap.size w wr.drew) := bthen hbe.out hS.out
      go_wp2
      go_roundw
      case rel => exact ⟨k + 1, by omega, by go_num, hb9⟩
      case measure => simp [intOf]; omega
    · have hk2 : k = l.length := by omega
      have hkI : ¬ (k : Int) < l.length := by omega
      go_wp2
      go_ret
      exact ⟨rfl, hbe.out⟩
set_option maxHeartbeats 2000000 in
theorem sameRows_any (P Q : List Rng) (h : P.map (·.2.1) = Q.map (·.2.1)) (ha : RgR w a ca P) (hb : RgR w b cb Q) : Calls Try.prog 20 #[.slice a P.length ca, .slice b Q.length cb] w fun e w' => e = .returned (.bool true) ∧ Below w.heap.size w w' := by
  have hlI := rows_len ha.1
  have hlen : Hid (P.length = Q.length) := by (show _ = _; have := congrArg List.length h; simpa using this)
  have hlq : ((P.length : Int) != (Q.length : Int)) = false := by (rw [hlen.out]; simp)
  have hqI := rows_len hb.1
  have hPQ : Hid (P.map (·.2.1) = Q.map (·.2.1)) := h
  have haH : Hid (RgR w a ca P) := ha
  have hbH : Hid (RgR w b cb Q) := hb
  clear ha hb h
  go_enter Try.func20, Try.ntmps20
  go_wp2_with fail
  go_loopw [13] (fun u wr => ∃ k : Nat, k ≤ P.length ∧ u = .int .i64 k ∧ Hid (Below w.heap.size w wr)) (fun u _ => P.length - (intOf u).toNat)
  case atStart => exact ⟨0, Nat.zero_le _, rfl, Below.refl _ _⟩
  case round =>
    obtain ⟨k, hk, rfl, hbe⟩ := hrel
    by_cases hlt : k < P.length
    · have hkI : (k : Int) < P.length := by omega
      obtain ⟨s, hs⟩ : ∃ s, P[k]? = some s := ⟨_, List.getElem?_eq_getElem hlt⟩
      obtain ⟨t, ht⟩ : ∃ t, Q[k]? = some t := ⟨_, List.getElem?_eq_getElem (by have := hlen.out; omega)⟩
      have hst : Hid (s.2.1 = t.2.1) := by
        have h := congrArg (fun z => z[k]?) hPQ.out
        simp only [List.getElem?_map, hs, ht, Option.map_some, Option.some.injEq] at h
        exact h
      obtain ⟨b1, o1, x1, l1, r1⟩ := rr_ix (haH.out.later hbe.out) k s hs
      obtain ⟨b2, o2, x2, l2, r2⟩ := rr_ix (hbH.out.later hbe.out) k t ht
      have cD : Hid (∀ wx, Below wr.heap.size wr wx → Calls Try.prog 13 #[.slice s.1 s.2.1.length s.2.2, .slice t.1 t.2.1.length t.2.2] wx fun e w' => e = .returned (.bool true) ∧ Below wx.heap.size wx w') := fun wx z => by
        have h1 := (haH.out.2 s (List.mem_of_getElem? hs)).later (bthen hbe.out z)
        have h2 := (hbH.out.2 t (List.mem_of_getElem? ht)).later (bthen hbe.out z)
        rw [← hst.out] at h2
        have h := sameInts_u (asZ s.2.1) s.1 t.1 s.2.2 t.2.2 wx h1 h2
        rw [show (asZ s.2.1).length = s.2.1.length by simp [asZ]] at h
        rw [← hst.out]
        exact h
      go_upto_region 6 with fail
      have hS : Hid (Below wr.heap.size wr wr.drew) := bey_drew wr
      have hRd : Hid (∀ w', Below wr.heap.size wr w' → w'.cell? ⟨b1, o1, none⟩ = some (.slice s.1 s.2.1.length s.2.2) ∧ w'.cell? ⟨b2, o2, none⟩ = some (.slice t.1 t.2.1.length t.2.2)) := fun w' z => ⟨cell_keepG r1 (z.block _ l1), cell_keepG r2 (z.block _ l2)⟩
      clear r1 r2 l1 l2 hs ht
      refine wp_region_noPanic ?_
      refine wp_region_held_drew (S := fun w' => Below wr.heap.size wr w') (by kernel_rfl) hS.out (fun _ => ?_)
      refine reg_move (i := 0) rfl (by kernel_rfl) (by kernel_rfl) (by kernel_rfl) (fun _ _ _ _ h => h) rfl (.slice a P.length ca) (fun _ => rfl) hS.out ?_
      simp only [Act.put, List.getElem_toArray, List.getElem_cons_succ, List.getElem_cons_zero, List.setIfInBounds_toArray, List.set_cons_zero, List.set_cons_succ]
      refine reg_move (i := 1) rfl (by kernel_rfl) (by kernel_rfl) (by kernel_rfl) (fun _ _ _ _ h => h) rfl (.int .i64 (k : Int)) (fun _ => rfl) hS.out ?_
      simp only [Act.put, List.getElem_toArray, List.getElem_cons_succ, List.getElem_cons_zero, List.setIfInBounds_toArray, List.set_cons_zero, List.set_cons_succ]
      refine reg_move (i := 2) rfl (by kernel_rfl) (by kernel_rfl) (by kernel_rfl) (fun _ _ _ _ h => h) rfl (.pointer (some ⟨b1, o1, none⟩)) (fun wx => by unfold execOp; exact run_value_of (x1 wx)) hS.out ?_
      simp only [Act.put, List.getElem_toArray, List.getElem_cons_succ, List.getElem_cons_zero, List.setIfInBounds_toArray, List.set_cons_zero, List.set_cons_succ]
      refine reg_load1 (i := 3) rfl (by kernel_rfl) (by kernel_rfl) (by kernel_rfl) (fun _ _ _ _ h => h) rfl 29 _ rfl ⟨b1, o1, none⟩ rfl _ Try.underlying29 rfl (.slice s.1 s.2.1.length s.2.2) (fun w' z => (hRd.out w' z).1) hS.out ?_
      simp only [Act.put, List.getElem_toArray, List.getElem_cons_succ, List.getElem_cons_zero, List.setIfInBounds_toArray, List.set_cons_zero, List.set_cons_succ]
      refine reg_move (i := 4) rfl (by kernel_rfl) (by kernel_rfl) (by kernel_rfl) (fun _ _ _ _ h => h) rfl (.slice b Q.length cb) (fun _ => rfl) hS.out ?_
      simp only [Act.put, List.getElem_toArray, List.getElem_cons_succ, List.getElem_cons_zero, List.setIfInBounds_toArray, List.set_cons_zero, List.set_cons_succ]
      refine reg_move (i := 5) rfl (by kernel_rfl) (by kernel_rfl) (by kernel_rfl) (fun _ _ _ _ h => h) rfl (.int .i64 (k : Int)) (fun _ => rfl) hS.out ?_
      simp only [Act.put, List.getElem_toArray, List.getElem_cons_succ, List.getElem_cons_zero, List.setIfInBounds_toArray, List.set_cons_zero, List.set_cons_succ]
      refine reg_move (i := 6) rfl (by kernel_rfl) (by kernel_rfl) (by kernel_rfl) (fun _ _ _ _ h => h) rfl (.pointer (some ⟨b2, o2, none⟩)) (fun wx => by unfold execOp; exact run_value_of (x2 wx)) hS.out ?_
      simp only [Act.put, List.getElem_toArray, List.getElem_cons_succ, List.getElem_cons_zero, List.setIfInBounds_toArray, List.set_cons_zero, List.set_cons_succ]
      refine reg_load1 (i := 7) rfl (by kernel_rfl) (by kernel_rfl) (by kernel_rfl) (fun _ _ _ _ h => h) rfl 29 _ rfl ⟨b2, o2, none⟩ rfl _ Try.underlying29 rfl (.slice t.1 t.2.1.length t.2.2) (fun w' z => (hRd.out w' z).2) hS.out ?_
      simp only [Act.put, List.getElem_toArray, List.getElem_cons_succ, List.getElem_cons_zero, List.setIfInBounds_toArray, List.set_cons_zero, List.set_cons_succ]
      refine reg_call2 (i := 8) (by kernel_rfl) rfl rfl 13 _ _ _ _ rfl (.slice s.1 s.2.1.length s.2.2) (.slice t.1 t.2.1.length t.2.2) rfl rfl (cf_fn Try.func13 (by kernel_rfl) (by kernel_rfl) _ _) _ (cD.out _ hS.out) ?_
      rintro e X4 ⟨rfl, hb4⟩
      have hS4 : Hid (Below wr.heap.size wr X4) := bthen hS.out hb4
      refine ⟨_, rfl, hS4.out, fun _ => ?_⟩
      simp only [Act.put, List.getElem_toArray, List.getElem_cons_succ, List.getElem_cons_zero, List.setIfInBounds_toArray, List.set_cons_zero, List.set_cons_succ]
      refine reg_move (i := 9) rfl (by kernel_rfl) (by kernel_rfl) (by kernel_rfl) (fun _ _ _ _ h => h) rfl (.bool false) (fun _ => rfl) hS4.out ?_
      simp only [Act.put, List.getElem_toArray, List.getElem_cons_succ, List.getElem_cons_zero, List.setIfInBounds_toArray, List.set_cons_zero, List.set_cons_succ]
      refine wpAnyH_done (by kernel_rfl) (NoPanic.normal ?_) _
      have hb9 : Hid (Below w.heap.size w X4) := bthen hbe.out hS4.out
      go_wp2
      go_roundw
      case rel => exact ⟨k + 1, by omega, by go_num, hb9⟩
      case measure => simp [intOf]; omega
    · have hk2 : k = P.length := by omega
      have hkI : ¬ (k : Int) < P.length := by omega
      go_wp2
      go_ret
      exact ⟨rfl, hbe.out⟩
end
end Go.Proofs.Ytdfnmlcpimiboaa.pg
