/- The document's own Clocks and Height. -/
import Derived.Test.YtkadlopcomjonaaM22
import Derived.Test.YtkadlopcomjonaaM31
import Derived.Test.YtkadlopcomjonaaM28
import Derived.Test.YtkadlopcomjonaaM39
namespace Go.Proofs.Ytkadlopcomjonaa.pg
open Go.ChangeShapes Go.WideShapes Go.ChangeAt Go.RowKit Go.Shelf
set_option linter.unusedVariables false
set_option linter.unusedSimpArgs false
set_option maxRecDepth 100000
attribute [local go_sem ↓] Go.wp_at_zero Go.wp_at_succ
/-- A clock as it is counted. -/
def rck (l : List Ev) (B : Nat → Nat → Bool) (j : Nat) : Nat → Ck
  | 0 => zeroK
  | k + 1 => if (k == j || B k j) = true then tk (rck l B j k) (gof l k) else rck l B j k
theorem rck_of {l : List Ev} (hrt : ∀ x ∈ l, rightP x) (B : Nat → Nat → Bool) (j : Nat) {a : Nat} (ha : a < 6) : ∀ k, k ≤ l.length → (rck l B j k).of a = (cnt (fun q => gof l q == a && (q == j || B q j)) k : Int)
  | 0, _ => by rw [rck, of_zero ha]; rfl
  | k + 1, h => by
    have ih := rck_of hrt B j ha k (by omega)
    have hg := gof_lt hrt (i := k) (by omega)
    have e : cnt (fun q => gof l q == a && (q == j || B q j)) (k + 1) = cnt (fun q => gof l q == a && (q == j || B q j)) k + (if (gof l k == a && (k == j || B k j)) = true then 1 else 0) := rfl
    rw [rck, e]
    by_cases c : (k == j || B k j) = true
    · rw [if_pos c, of_tk hg ha, ih, c, Bool.and_true]
      by_cases d : a = gof l k
      · subst d; simp
      · have : ¬ (gof l k == a) = true := by simp; exact fun q => d q.symm
        rw [if_neg d, if_neg this]; simp
    · have : ¬ (gof l k == a && (k == j || B k j)) = true := by simp only [Bool.and_eq_true]; exact fun q => c q.2
      rw [if_neg c, if_neg this, ih]; simp
theorem rck_is {l : List Ev} (hrt : ∀ x ∈ l, rightP x) {B : Nat → Nat → Bool} (hB : Tells (dpf l) B) {j : Nat} (hj : j < l.length) : rck l B j l.length = (rel (evf l) l.length).1.getD j zeroK := by
  refine ck_ext fun a ha => ?_
  rw [rck_of hrt B j ha l.length (Nat.le_refl _), rel_is hrt hB l.length (Nat.le_refl _) j _ (rel_get _ _ j hj) a ha, ckn_at hB hj]
theorem rck_all {l : List Ev} (hrt : ∀ x ∈ l, rightP x) {B : Nat → Nat → Bool} (hB : Tells (dpf l) B) : (List.range l.length).map (fun j => rck l B j l.length) = (rel (evf l) l.length).1 := by
  apply List.ext_getElem?
  intro k
  have hl := rel_len (evf l) l.length
  by_cases c : k < l.length
  · rw [List.getElem?_map, List.getElem?_range c, Option.map_some, rck_is hrt hB c, ← rel_get _ _ k c]
  · rw [List.getElem?_eq_none (by simp; omega), List.getElem?_eq_none (by omega)]
theorem rck_upto {l : List Ev} (hrt : ∀ x ∈ l, rightP x) (B : Nat → Nat → Bool) (j k : Nat) (hk : k ≤ l.length) {a : Nat} (ha : a < 6) : 0 ≤ (rck l B j k).of a ∧ (rck l B j k).of a ≤ k := by
  rw [rck_of hrt B j ha k hk]
  have := cnt_le (fun q => gof l q == a && (q == j || B q j)) k
  omega
theorem put_cellsK (x : Ck) (g : Nat) (v : Int) : x.cells.toArray.setIfInBounds g (.int .i64 v) = (x.put g v).cells.toArray := by
  have e : ∀ y : Ck, y.cells = y.list.map fun n => Value.int .i64 n := fun y => rfl
  apply Array.ext'
  rw [Array.toList_setIfInBounds]
  show (x.cells).set g (.int .i64 v) = (x.put g v).cells
  rw [e, e, put_list, List.map_set]
theorem InB.putv {W : World} {b g : Nat} {x : Ck} (h : InB W b x) (v : Int) : InB (W.setCell ⟨b, g, none⟩ (.int .i64 v)) b (x.put g v) := by
  have h' : W.heap[b]? = some (.cells x.cells.toArray 86) := h
  rw [setCell_eq_setRow W b g _ _ _ _ h', put_cellsK]
  exact setRow_heap W b _ _ _ _ h'
theorem infoKc : (Try.prog.info? 86).map (fun i => (i.zero, i.size, i.bytes)) = some (some (.agg zeroK.cells.toArray), 6, 48) := by kernel_rfl
theorem one6c2 (x : Ck) : ∀ u ∈ x.cells, u.oneCell' = true := by intro u hu; simp [Ck.cells] at hu; rcases hu with rfl | rfl | rfl | rfl | rfl | rfl <;> rfl
structure CksS (w wr : World) (L : List Ck) (va : Option Addr) (vc : Nat) : Prop where
  be : Below w.heap.size w wr
  ow : OwnL wr w.heap.size 86 6 va vc (L.map Ck.cells)
theorem CksS.later {w wr w' : World} {L : List Ck} {va : Option Addr} {vc : Nat} (h : CksS w wr L va vc) (hb : Below wr.heap.size wr w') : CksS w w' L va vc :=
  ⟨bthen h.be hb, own_keep h.ow fun b hb' => hb.block b (blk_lt h.ow b hb').2⟩
theorem CksS.grown {w wr w' : World} {L : List Ck} {va va' : Option Addr} {vc vc' : Nat} {x : Ck} (h : CksS w wr L va vc) (hg : Grown wr w.heap.size 86 6 va (L.map Ck.cells) x.cells va' vc' w') : CksS w w' (L ++ [x]) va' vc' :=
  ⟨below_min h.be h.be.size hg.be, by rw [List.map_append]; exact hg.ow⟩
/-- A clock in a new box, all else beyond. -/
structure CbS (wr W : World) (Cb : Nat) (x : Ck) : Prop where
  c : InB W Cb x
  b : Below wr.heap.size wr W
  l : wr.heap.size ≤ Cb
theorem CbS.put {wr W : World} {Cb : Nat} {x : Ck} (h : CbS wr W Cb x) (g : Nat) (v : Int) : CbS wr (W.setCell ⟨Cb, g, none⟩ (.int .i64 v)) Cb (x.put g v) :=
  ⟨h.c.putv v, h.b.setCell (p := ⟨Cb, g, none⟩) h.l _, h.l⟩
theorem CbS.cell {wr W : World} {Cb : Nat} {x : Ck} (h : CbS wr W Cb x) {g : Nat} (hg : g < 6) : W.cell? ⟨Cb, g, none⟩ = some (.int .i64 (x.of g)) ∧ W.frozen? ⟨Cb, g, none⟩ = false := by
  have h' : W.heap[Cb]? = some (.cells x.cells.toArray 86) := h.c
  exact ⟨cell_of h' (by have := ck_of (x := x) hg; simpa using this), frozen_of_row _ _ _ _ _ h'⟩
end Go.Proofs.Ytkadlopcomjonaa.pg
/- The document's own Height. -/
namespace Go.Proofs.Ytkadlopcomjonaa.pg
open Go.ChangeShapes Go.WideShapes Go.ChangeAt Go.RowKit Go.Shelf
set_option linter.unusedVariables false
set_option linter.unusedSimpArgs false
set_option maxRecDepth 100000
attribute [local go_sem ↓] Go.wp_at_zero Go.wp_at_succ
def vB (h : Nat → Int) (B : Nat → Nat → Bool) (j : Nat) : Nat → Int
  | 0 => 1
  | k + 1 => if B k j = true ∧ vB h B j k < h k + 2 then h k + 2 else vB h B j k
theorem vB_in (h : Nat → Int) (B : Nat → Nat → Bool) (j : Nat) (X : Int) (hX : 1 ≤ X) : ∀ k, (∀ i, i < k → B i j = true → h i + 2 ≤ X) → 1 ≤ vB h B j k ∧ vB h B j k ≤ X ∧ ∀ i, i < k → B i j = true → h i + 2 ≤ vB h B j k
  | 0, _ => ⟨Int.le_refl _, hX, fun i hi => by omega⟩
  | k + 1, hh => by
    obtain ⟨i1, i2, i3⟩ := vB_in h B j X hX k fun i hi => hh i (by omega)
    have hx := hh k (by omega)
    unfold vB
    split
    · rename_i c
      have := hx c.1
      refine ⟨by omega, this, fun i hi hb => ?_⟩
      by_cases e : i = k
      · subst e; omega
      · have := i3 i (by omega) hb; omega
    · rename_i c
      refine ⟨i1, i2, fun i hi hb => ?_⟩
      by_cases e : i = k
      · subst e
        have : ¬ vB h B j i < h i + 2 := fun q => c ⟨hb, q⟩
        omega
      · exact i3 i (by omega) hb
theorem vB_is {d B : Nat → Nat → Bool} (hB : Tells d B) {n : Nat} {h : Nat → Int} (hh : High n (edgeB d B) h) {j : Nat} (hj : j < n) : vB h B j j = h j + 1 ∧ ∀ k, k ≤ j → 1 ≤ vB h B j k ∧ vB h B j k ≤ h j + 1 := by
  have hp := hh.pos j hj
  have key : ∀ k, k ≤ j → 1 ≤ vB h B j k ∧ vB h B j k ≤ h j + 1 ∧ ∀ i, i < k → B i j = true → h i + 2 ≤ vB h B j k := fun k hk => vB_in h B j (h j + 1) (by omega) k fun i hi hb => by
    have := hh.hb hB j i j (Nat.le_refl _) hj ((hB i j).mp hb)
    omega
  refine ⟨?_, fun k hk => ⟨(key k hk).1, (key k hk).2.1⟩⟩
  obtain ⟨i1, i2, i3⟩ := key j (Nat.le_refl _)
  rcases hh.some j hj with q | ⟨i, q1, q2, q3⟩
  · omega
  · have := i3 i q1 ((hB i j).mpr (edgeB_hb hB q2))
    omega
structure IntB (We W : World) (A : Nat) (hs : List Int) : Prop where
  a : W.heap[A]? = some (objInts hs)
  b : Below We.heap.size We W
  l : We.heap.size ≤ A
theorem IntB.later {We W W' : World} {A : Nat} {hs : List Int} (h : IntB We W A hs) (hb : Below W.heap.size W W') : IntB We W' A hs :=
  ⟨(hb.block _ (Array.getElem?_eq_some_iff.mp h.a).1).trans h.a, bthen h.b hb, h.l⟩
theorem IntB.set {We W : World} {A : Nat} {hs : List Int} (h : IntB We W A hs) (j : Nat) (v : Int) : IntB We (W.setCell ⟨A, j, none⟩ (.int .i64 v)) A (hs.set j v) := by
  rw [setCell_eq_setRow W A j _ _ _ _ h.a]
  refine ⟨?_, below_setRow h.b h.l _, h.l⟩
  rw [setRow_heap W A _ _ _ _ h.a]
  simp [List.map_set]
theorem IntB.cell {We W : World} {A : Nat} {hs : List Int} (h : IntB We W A hs) {j : Nat} (hj : j < hs.length) : W.cell? ⟨A, j, none⟩ = some (.int .i64 (hs.getD j 0)) ∧ W.frozen? ⟨A, j, none⟩ = false := by
  refine ⟨cell_of h.a ?_, frozen_of_row _ _ _ _ _ h.a⟩
  rw [List.getD_eq_getElem?_getD, List.getElem?_eq_getElem hj]
  simp [hj]
end Go.Proofs.Ytkadlopcomjonaa.pg
/- Foata's levels, by the document. -/
namespace Go.Proofs.Ytkadlopcomjonaa.pg
open Go.ChangeShapes Go.WideShapes Go.ChangeAt Go.RowKit Go.Shelf
set_option linter.unusedVariables false
set_option linter.unusedSimpArgs false
set_option maxRecDepth 100000
/-- The document's level of j, as far as its past is gone through. -/
def vC (h : Nat → Int) (B : Nat → Nat → Bool) (j : Nat) : Nat → Int
  | 0 => 0
  | k + 1 => if B k j = true ∧ vC h B j k ≤ h k then h k + 1 else vC h B j k
theorem vC_vB (h : Nat → Int) (B : Nat → Nat → Bool) (j : Nat) : ∀ k, vC h B j k = vB h B j k - 1
  | 0 => by show (0 : Int) = 1 - 1; omega
  | k + 1 => by
    have ih := vC_vB h B j k
    unfold vC vB
    rw [ih]
    by_cases c : B k j = true
    · by_cases c2 : vB h B j k < h k + 2
      · rw [if_pos ⟨c, by omega⟩, if_pos ⟨c, c2⟩]; omega
      · rw [if_neg (fun q => by have := q.2; omega), if_neg fun q => c2 q.2]
    · rw [if_neg fun q => c q.1, if_neg fun q => c q.1]
theorem vC_is {d B : Nat → Nat → Bool} (hB : Tells d B) {n : Nat} {h : Nat → Int} (hh : High n (edgeB d B) h) {j : Nat} (hj : j < n) : vC h B j j = h j ∧ ∀ k, k ≤ j → 0 ≤ vC h B j k ∧ vC h B j k ≤ h j := by
  obtain ⟨h1, h2⟩ := vB_is hB hh hj
  refine ⟨by rw [vC_vB, h1]; omega, fun k hk => ?_⟩
  have := h2 k hk
  rw [vC_vB]
  omega
/-- Levels as far as they are reckoned. -/
def lgT (h : Nat → Int) (n j : Nat) : List Int := (List.range n).map fun i => if i < j then h i else 0
theorem lgT_len (h : Nat → Int) (n j : Nat) : (lgT h n j).length = n := by simp [lgT]
theorem lgT_get {h : Nat → Int} {n j i : Nat} (hi : i < n) : (lgT h n j).getD i 0 = if i < j then h i else 0 := by
  unfold lgT
  simp [List.getD_eq_getElem?_getD, hi]
theorem lgT_more {h : Nat → Int} {n j : Nat} {v : Int} (hj : j < n) (hv : v = h j) : (lgT h n j).set j v = lgT h n (j + 1) := by
  apply List.ext_getElem?
  intro i
  by_cases c : i < n
  · have e1 : ((lgT h n j).set j v)[i]? = some (((lgT h n j).set j v).getD i 0) := by
      rw [List.getD_eq_getElem?_getD, List.getElem?_eq_getElem (by rw [List.length_set, lgT_len]; exact c)]; rfl
    have e2 : (lgT h n (j + 1))[i]? = some ((lgT h n (j + 1)).getD i 0) := by
      rw [List.getD_eq_getElem?_getD, List.getElem?_eq_getElem (by rw [lgT_len]; exact c)]; rfl
    rw [e1, e2, getD_set0 _ _ _ (by rw [lgT_len]; exact hj), lgT_get c, lgT_get c]
    by_cases q : i = j
    · rw [if_pos q, if_pos (by omega), q, hv]
    · rw [if_neg q]
      by_cases q2 : i < j
      · rw [if_pos q2, if_pos (by omega)]
      · rw [if_neg q2, if_neg (by omega)]
  · rw [List.getElem?_eq_none (by rw [List.length_set, lgT_len]; omega), List.getElem?_eq_none (by rw [lgT_len]; omega)]
theorem lgT_set0 {h : Nat → Int} {n j : Nat} (hj : j < n) : (lgT h n j).set j 0 = lgT h n j := by
  apply List.ext_getElem?
  intro i
  rw [List.getElem?_set]
  by_cases c : j = i
  · subst c
    rw [if_pos rfl, lgT_len, if_pos hj]
    simp [lgT, hj]
  · rw [if_neg c]
theorem lgT_zero (h : Nat → Int) (n : Nat) : (some (Obj.cells (List.replicate n (Value.int .i64 0)).toArray 3 (0, 0)) : Option Obj) = some (objInts (lgT h n 0)) := by
  congr 3
  apply List.ext_getElem?
  intro i
  by_cases c : i < n <;> simp [lgT, c]
theorem own_tagL {w : World} {lo e k : Nat} {a : Option Addr} {cap : Nat} {L : List (List Value)} (h : OwnL w lo e k a cap L) {g : Nat} (hg : g ∈ blk a) : ∃ cur, w.heap[g]? = some (.cells cur e (0, 0)) := by
  rcases h.2 with ⟨q, _⟩ | ⟨g', cap', cur, q, hb, hg', h1, h2, h3, h4⟩
  · simp only [Value.slice.injEq] at q; rw [q.1] at hg; simp [blk] at hg
  · simp only [Value.slice.injEq] at q
    rw [q.1] at hg
    simp only [blk, List.mem_singleton] at hg
    subst hg
    exact ⟨cur, hg'⟩
theorem own_apartL {w : World} {lo lo' e e' k k' : Nat} {a a' : Option Addr} {cap cap' : Nat} {L L' : List (List Value)} (h : OwnL w lo e k a cap L) (h' : OwnL w lo' e' k' a' cap' L') (hne : e ≠ e') {g : Nat} (hg : g ∈ blk a) : g ∉ blk a' := fun hg' => by
  obtain ⟨c, h1⟩ := own_tagL h hg
  obtain ⟨c', h2⟩ := own_tagL h' hg'
  rw [h1] at h2
  simp at h2
  exact hne h2.2
/-- Rows that are done, in a list that grows, and one that is made. -/
structure RfM (V W : World) (N : Nat) (va : Option Addr) (vc : Nat) (pa : Nat → Option Addr) (pc : Nat → Nat) (L : Nat → List Int) (ra : Option Addr) (rc : Nat) (R : List Int) : Prop where
  o : OwnL W V.heap.size 39 1 va vc ((slC N pa pc L).map fun v => [v])
  r : ∀ k, k < N → OwnL W V.heap.size 3 1 (pa k) (pc k) ((L k).map chCells)
  x : OwnL W V.heap.size 3 1 ra rc (R.map chCells)
  xa : ∀ k, k < N → ∀ g ∈ blk ra, g ∉ blk (pa k)
  b : Below V.heap.size V W
theorem RfM.later {V W W' : World} {N : Nat} {va : Option Addr} {vc : Nat} {pa : Nat → Option Addr} {pc : Nat → Nat} {L : Nat → List Int} {ra : Option Addr} {rc : Nat} {R : List Int} (h : RfM V W N va vc pa pc L ra rc R) (hb : Below W.heap.size W W') : RfM V W' N va vc pa pc L ra rc R :=
  ⟨own_keep h.o fun g hg => hb.block g (blk_lt h.o g hg).2, fun k hk => own_keep (h.r k hk) fun g hg => hb.block g (blk_lt (h.r k hk) g hg).2, own_keep h.x fun g hg => hb.block g (blk_lt h.x g hg).2, h.xa, bthen h.b hb⟩
theorem RfM.more {V W W' : World} {N : Nat} {va : Option Addr} {vc : Nat} {pa : Nat → Option Addr} {pc : Nat → Nat} {L : Nat → List Int} {ra : Option Addr} {rc : Nat} {R : List Int} (h : RfM V W N va vc pa pc L ra rc R) {x : Int} {ra' : Option Addr} {rc' : Nat} (hg : Grown W V.heap.size 3 1 ra (R.map chCells) (chCells x) ra' rc' W') : RfM V W' N va vc pa pc L ra' rc' (R ++ [x]) := by
  refine ⟨own_keep h.o fun g q => hg.kp g (blk_lt h.o g q).2 (own_apartL h.o h.x (by decide) q), fun k hk => own_keep (h.r k hk) fun g q => hg.kp g (blk_lt (h.r k hk) g q).2 fun q2 => h.xa k hk g q2 q, by rw [List.map_append]; exact hg.ow, fun k hk g q q2 => ?_, h.b.trans (hg.be.mono (by have := h.b.size; omega))⟩
  rcases hg.bk g q with z | z
  · exact h.xa k hk g z q2
  · have := (blk_lt (h.r k hk) g q2).2; omega
theorem slC_snoc {N : Nat} {pa : Nat → Option Addr} {pc : Nat → Nat} {L : Nat → List Int} {ra : Option Addr} {rc : Nat} {R : List Int} : ((slC N pa pc L).map fun v => [v]) ++ [[Value.slice ra R.length rc]] = (slC (N + 1) (updF pa N ra) (updF pc N rc) (updF L N R)).map fun v => [v] := by
  unfold slC
  rw [List.range_succ, List.map_append, List.map_append]
  congr 1
  · rw [List.map_map, List.map_map]
    refine List.map_congr_left fun k hk => ?_
    have : k ≠ N := by have := List.mem_range.mp hk; omega
    simp only [Function.comp]
    unfold slv
    rw [updF_ne _ _ this, updF_ne _ _ this, updF_ne _ _ this]
  · simp [slv, updF_at]
theorem RfM.row {V W W' : World} {N : Nat} {va : Option Addr} {vc : Nat} {pa : Nat → Option Addr} {pc : Nat → Nat} {L : Nat → List Int} {ra : Option Addr} {rc : Nat} {R : List Int} (h : RfM V W N va vc pa pc L ra rc R) {va' : Option Addr} {vc' : Nat} (hg : Grown W V.heap.size 39 1 va ((slC N pa pc L).map fun v => [v]) [Value.slice ra R.length rc] va' vc' W') : RfM V W' (N + 1) va' vc' (updF pa N ra) (updF pc N rc) (updF L N R) none 0 [] := by
  refine ⟨by rw [← slC_snoc]; exact hg.ow, fun k hk => ?_, own_nil_q _ _ _ _, (fun k hk g q => by cases q), h.b.trans (hg.be.mono (by have := h.b.size; omega))⟩
  by_cases c : k = N
  · subst c
    rw [updF_at, updF_at, updF_at]
    exact own_keep h.x fun g q => hg.kp g (blk_lt h.x g q).2 fun q2 => own_apartL h.o h.x (by decide) q2 q
  · rw [updF_ne _ _ c, updF_ne _ _ c, updF_ne _ _ c]
    have hk2 : k < N := by omega
    exact own_keep (h.r k hk2) fun g q => hg.kp g (blk_lt (h.r k hk2) g q).2 fun q2 => own_apartL h.o (h.r k hk2) (by decide) q2 q
theorem RfM.congr {V W : World} {N : Nat} {va : Option Addr} {vc : Nat} {pa : Nat → Option Addr} {pc : Nat → Nat} {L L' : Nat → List Int} {ra : Option Addr} {rc : Nat} {R R' : List Int} (h : RfM V W N va vc pa pc L ra rc R) (e : ∀ k, k < N → L k = L' k) (e2 : R = R') : RfM V W N va vc pa pc L' ra rc R' := by
  subst e2
  exact ⟨by rw [← slC_congr e]; exact h.o, fun k hk => by rw [← e k hk]; exact h.r k hk, h.x, h.xa, h.b⟩
theorem RfM.told {V W : World} {N : Nat} {va : Option Addr} {vc : Nat} {pa : Nat → Option Addr} {pc : Nat → Nat} {L : Nat → List Int} {ra : Option Addr} {rc : Nat} {R : List Int} (h : RfM V W N va vc pa pc L ra rc R) : Mx W va vc N L :=
  ⟨pa, pc, own_rows h.o (by intro row hr; obtain ⟨v, _, rfl⟩ := List.mem_map.mp hr; rfl), fun k hk => own_rows (h.r k hk) (len1u _)⟩
/-- A row while it is gathered. -/
def rwI (l : List Ev) (h : Nat → Int) (k a i : Nat) : List Int := (lvTo (gof l) l.length h (k : Int) a ++ lvA (gof l) i h (k : Int) a).map fun i : Nat => (i : Int)
theorem rwI_zero (l : List Ev) (h : Nat → Int) (k : Nat) : rwI l h k 0 0 = [] := by simp [rwI, lvTo, lvA, plc]
theorem rwI_next (l : List Ev) (h : Nat → Int) (k a : Nat) : rwI l h k a l.length = rwI l h k (a + 1) 0 := by
  unfold rwI
  show _ = List.map _ (lvTo (gof l) l.length h (k : Int) a ++ lvA (gof l) l.length h (k : Int) a ++ _)
  simp [lvA, plc]
theorem rwI_end (l : List Ev) (h : Nat → Int) (k : Nat) : rwI l h k 6 0 = lvL l h k := by simp [rwI, lvL, lvRow, lvA, plc]
theorem rwI_yes {l : List Ev} {h : Nat → Int} {k a i : Nat} (h1 : h i = (k : Int)) (h2 : gof l i = a) : rwI l h k a (i + 1) = rwI l h k a i ++ [(i : Int)] := by
  unfold rwI
  rw [lvA_more, if_pos ⟨h2, h1⟩]
  simp
theorem rwI_no {l : List Ev} {h : Nat → Int} {k a i : Nat} (hn : ¬ (gof l i = a ∧ h i = (k : Int))) : rwI l h k a (i + 1) = rwI l h k a i := by
  unfold rwI
  rw [lvA_more, if_neg hn]
  simp
theorem rwI_len (l : List Ev) (h : Nat → Int) (k a i : Nat) (hl : l.length ≤ 256) (hi : i ≤ l.length) : (rwI l h k a i).length ≤ 512 := by
  unfold rwI
  rw [List.length_map, List.length_append]
  have h1 : (lvTo (gof l) l.length h (k : Int) a).length ≤ l.length := by
    rw [← cnt_memS (n := l.length) _ (lvTo_nodup (gof l) l.length h (k : Int) a) fun x hx => (lvTo_mem.mp hx).1]
    exact cnt_le _ _
  have h2 : (lvA (gof l) i h (k : Int) a).length ≤ i := by
    unfold lvA
    have h3 : (plc (gof l) i a).length ≤ i := by rw [plc_len]; exact cnt_le _ _
    exact Nat.le_trans (List.length_filter_le _ _) h3
  omega
theorem top_mst {n : Nat} {h : Nat → Int} {H : Nat} (hT : Top n h H) (hp : ∀ j, j < n → 0 ≤ h j) : mst h n = (H : Int) := by
  obtain ⟨i1, i2, i3⟩ := mst_in h n (H : Int) (by omega) hT.top n (Nat.le_refl _)
  rcases hT.hit with ⟨q1, q2⟩ | ⟨j, j1, j2⟩
  · rw [q1, q2]; rfl
  · have := i3 j j1; omega
end Go.Proofs.Ytkadlopcomjonaa.pg
