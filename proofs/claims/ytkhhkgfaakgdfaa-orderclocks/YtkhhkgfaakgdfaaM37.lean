/- OrderHigh: what its loops reckon. -/
import Derived.Test.YtkhhkgfaakgdfaaM32
import Derived.Test.YtkhhkgfaakgdfaaM36
import Derived.Test.YtkhhkgfaakgdfaaM26
import Derived.Test.YtkhhkgfaakgdfaaM33
namespace Go.Proofs.Ytkhhkgfaakgdfaa.pg
open Go.ChangeShapes Go.WideShapes Go.ChangeAt Go.RowKit Go.Shelf
set_option linter.unusedVariables false
set_option linter.unusedSimpArgs false
set_option maxRecDepth 100000
attribute [local go_sem ↓] Go.wp_at_zero Go.wp_at_succ
def vst (h : Nat → Int) (j : Nat) (v : Int) (p : Nat × Nat) : Int := if p.2 = j ∧ v < h p.1 + 2 then h p.1 + 2 else v
def vfold (h : Nat → Int) (j : Nat) (D : List (Nat × Nat)) : Int := D.foldl (vst h j) 1
theorem vfold_more (h : Nat → Int) (j : Nat) (D : List (Nat × Nat)) (p : Nat × Nat) : vfold h j (D ++ [p]) = vst h j (vfold h j D) p := by unfold vfold; rw [List.foldl_append]; rfl
theorem vfold_in (h : Nat → Int) (j : Nat) (X : Int) (hX : 1 ≤ X) : ∀ (n : Nat) (D : List (Nat × Nat)), D.length = n → (∀ p ∈ D, p.2 = j → h p.1 + 2 ≤ X) → 1 ≤ vfold h j D ∧ vfold h j D ≤ X ∧ ∀ p ∈ D, p.2 = j → h p.1 + 2 ≤ vfold h j D
  | 0, D, hn, _ => by
    have : D = [] := List.length_eq_zero_iff.mp hn
    subst this
    exact ⟨Int.le_refl _, hX, fun p hp => by simp at hp⟩
  | n + 1, D, hn, hD => by
    rcases List.eq_nil_or_concat D with rfl | ⟨q, x, rfl⟩
    · simp at hn
    · rw [List.concat_eq_append] at hn hD ⊢
      rw [List.length_append, List.length_singleton] at hn
      obtain ⟨i1, i2, i3⟩ := vfold_in h j X hX n q (by omega) fun p hp => hD p (List.mem_append_left _ hp)
      have hx := hD x (by simp)
      rw [vfold_more]
      generalize vfold h j q = v at *
      unfold vst
      split
      · rename_i c
        have := hx c.1
        refine ⟨by omega, this, fun p hp hpj => ?_⟩
        rw [List.mem_append, List.mem_singleton] at hp
        rcases hp with hp | rfl
        · have := i3 p hp hpj; omega
        · omega
      · rename_i c
        refine ⟨i1, i2, fun p hp hpj => ?_⟩
        rw [List.mem_append, List.mem_singleton] at hp
        rcases hp with hp | rfl
        · exact i3 p hp hpj
        · have : ¬ v < h p.1 + 2 := fun q => c ⟨hpj, q⟩
          omega
theorem vfold_is {n : Nat} {e : Nat → Nat → Bool} {h : Nat → Int} (hh : High n e h) {D : List (Nat × Nat)} (hD : ∀ p, p ∈ D ↔ p.1 < p.2 ∧ p.2 < n ∧ e p.1 p.2 = true) {j : Nat} (hj : j < n) : vfold h j D = h j + 1 := by
  have hp := hh.pos j hj
  obtain ⟨i1, i2, i3⟩ := vfold_in h j (h j + 1) (by omega) _ D rfl fun p hp hpj => by
    obtain ⟨q1, q2, q3⟩ := (hD p).mp hp
    subst hpj
    have := hh.up p.1 p.2 q1 q2 q3
    omega
  rcases hh.some j hj with q | ⟨i, q1, q2, q3⟩
  · omega
  · have := i3 (i, j) ((hD (i, j)).mpr ⟨q1, hj, q2⟩) rfl
    simp only at this
    omega
def mst (h : Nat → Int) : Nat → Int
  | 0 => 0
  | k + 1 => if mst h k < h k + 1 then h k + 1 else mst h k
theorem mst_in (h : Nat → Int) (n : Nat) (X : Int) (hX : 0 ≤ X) (hh : ∀ j, j < n → h j + 1 ≤ X) : ∀ k, k ≤ n → 0 ≤ mst h k ∧ mst h k ≤ X ∧ ∀ j, j < k → h j + 1 ≤ mst h k
  | 0, _ => ⟨Int.le_refl _, hX, fun j hj => by omega⟩
  | k + 1, hk => by
    obtain ⟨i1, i2, i3⟩ := mst_in h n X hX hh k (by omega)
    have hx := hh k (by omega)
    unfold mst
    split
    · refine ⟨by omega, hx, fun j hj => ?_⟩
      by_cases c : j = k
      · subst c; omega
      · have := i3 j (by omega); omega
    · refine ⟨i1, i2, fun j hj => ?_⟩
      by_cases c : j = k
      · subst c; omega
      · exact i3 j (by omega)
section
variable {l : List Ev} (hrt : ∀ x ∈ l, rightP x)
include hrt
/-- The height, as the law reckons it. -/
theorem mst_is : mst (fun j => (hfold l.length (rel (evf l) l.length).2).1.getD j 0) l.length = (hfold l.length (rel (evf l) l.length).2).2 := by
  obtain ⟨B, hB⟩ := tells_some (dpf l)
  have h := hi_rel hrt hB
  rcases h.hit with ⟨q1, q2⟩ | ⟨j, j1, j2⟩
  · rw [q2, q1]; rfl
  · have hp := h.pos j j1
    obtain ⟨_, i2, i3⟩ := mst_in (fun j => (hfold l.length (rel (evf l) l.length).2).1.getD j 0) l.length (hfold l.length (rel (evf l) l.length).2).2 (by omega) h.top l.length (Nat.le_refl _)
    have := i3 j j1
    omega
theorem hgt_le : 0 ≤ (hfold l.length (rel (evf l) l.length).2).2 ∧ (hfold l.length (rel (evf l) l.length).2).2 ≤ l.length ∧ (0 < l.length → 1 ≤ (hfold l.length (rel (evf l) l.length).2).2) := by
  obtain ⟨B, hB⟩ := tells_some (dpf l)
  have h := hi_rel hrt hB
  have hh := high_rel hrt hB
  have key : ∀ j, j < l.length → (hfold l.length (rel (evf l) l.length).2).1.getD j 0 ≤ (j : Int) := by
    intro j
    induction j using Nat.strongRecOn with
    | ind j ih =>
      intro hj
      rcases hh.some j hj with q | ⟨i, q1, q2, q3⟩
      · omega
      · have := ih i q1 (by omega)
        omega
  rcases h.hit with ⟨q1, q2⟩ | ⟨j, j1, j2⟩
  · rw [q2, q1]; omega
  · have := key j j1
    have hp := h.pos j j1
    omega
theorem own_le (g : Nat) : (cnt (fun k => gof l k == g) l.length : Int) ≤ (hfold l.length (rel (evf l) l.length).2).2 := by
  obtain ⟨B, hB⟩ := tells_some (dpf l)
  have h := hi_rel hrt hB
  exact ((high_rel hrt hB).own hB (ord_ok hrt) g _ (hgt_le hrt).1 h.top l.length (Nat.le_refl _)).1
theorem vfold_rel {D : List (Nat × Nat)} (hD : D.Perm (rel (evf l) l.length).2) {j : Nat} (hj : j < l.length) : vfold (fun j => (hfold l.length (rel (evf l) l.length).2).1.getD j 0) j D = (hfold l.length (rel (evf l) l.length).2).1.getD j 0 + 1 := by
  obtain ⟨B, hB⟩ := tells_some (dpf l)
  exact vfold_is (high_rel hrt hB) (fun p => by rw [hD.mem_iff]; exact edges_mem hrt hB p) hj
end
set_option maxHeartbeats 1000000 in
theorem height_bad (l : List Ev) (la : Option Addr) (lc : Nat) (w : World) (hl : Rows w 26 la lc (l.map Ev.cells)) (c : Int) (hc : checkP l c) (h0 : c = 2 ∨ c = 7) :
    Calls Try.prog 14 #[.slice la l.length lc] w fun e w' => e = .returned (.tuple #[.int .i64 0, .int .i64 c]) ∧ Below w.heap.size w w' := by
  have c1 := look_bad l la lc (.slice none 0 0) w hl c hc h0
  have hlI := rows_len hl
  clear hl hc
  rcases h0 with rfl | rfl
  all_goals
    go_enter Try.func14, Try.ntmps14
    go_wp2_with (first
      | (go_at_call 42; (with_reducible refine c1.mono ?_); rintro e w1 ⟨rfl, hb'⟩; (have hb : Hid (Below w.heap.size w w1) := hb'); clear hb' c1)
      | (refine wpList_store_new rfl 78 _ _ rfl rfl _ _ rfl (by kernel_rfl) rfl (one3 _ _ _ _ _ _ _ _ _) ?_))
    go_ret2
    exact ⟨rfl, bthen hb.out (boxed _ _)⟩
/-- How far the loops have come: what the law's two lists hold. -/
structure OhSt (We W : World) (A O : Nat) (hs os : List Int) : Prop where
  a : W.heap[A]? = some (objInts hs)
  o : W.heap[O]? = some (.cells (os.map fun v => Value.int .i64 v).toArray 39)
  b : Below We.heap.size We W
  ne : A ≠ O
  la : We.heap.size ≤ A
  lo : We.heap.size ≤ O
theorem OhSt.later {We W W' : World} {A O : Nat} {hs os : List Int} (h : OhSt We W A O hs os) (hb : Below W.heap.size W W') : OhSt We W' A O hs os :=
  ⟨(hb.block _ (Array.getElem?_eq_some_iff.mp h.a).1).trans h.a, (hb.block _ (Array.getElem?_eq_some_iff.mp h.o).1).trans h.o, bthen h.b hb, h.ne, h.la, h.lo⟩
theorem OhSt.setA {We W : World} {A O : Nat} {hs os : List Int} (h : OhSt We W A O hs os) (j : Nat) (v : Int) : OhSt We (W.setCell ⟨A, j, none⟩ (.int .i64 v)) A O (hs.set j v) os := by
  rw [setCell_eq_setRow W A j _ _ _ _ h.a]
  refine ⟨?_, (setRow_other _ _ _ _ (Ne.symm h.ne)).trans h.o, below_setRow h.b h.la _, h.ne, h.la, h.lo⟩
  rw [setRow_heap W A _ _ _ _ h.a]
  simp [List.map_set]
theorem OhSt.setO {We W : World} {A O : Nat} {hs os : List Int} (h : OhSt We W A O hs os) (j : Nat) (v : Int) : OhSt We (W.setCell ⟨O, j, none⟩ (.int .i64 v)) A O hs (os.set j v) := by
  rw [setCell_eq_setRow W O j _ _ _ _ h.o]
  refine ⟨(setRow_other _ _ _ _ h.ne).trans h.a, ?_, below_setRow h.b h.lo _, h.ne, h.la, h.lo⟩
  rw [setRow_heap W O _ _ _ _ h.o]
  simp [List.map_set]
theorem OhSt.cellA {We W : World} {A O : Nat} {hs os : List Int} (h : OhSt We W A O hs os) {j : Nat} (hj : j < hs.length) : W.cell? ⟨A, j, none⟩ = some (.int .i64 (hs.getD j 0)) ∧ W.frozen? ⟨A, j, none⟩ = false := by
  refine ⟨cell_of h.a ?_, frozen_of_row _ _ _ _ _ h.a⟩
  rw [List.getD_eq_getElem?_getD, List.getElem?_eq_getElem hj]
  simp [hj]
theorem OhSt.cellO {We W : World} {A O : Nat} {hs os : List Int} (h : OhSt We W A O hs os) {j : Nat} (hj : j < os.length) : W.cell? ⟨O, j, none⟩ = some (.int .i64 (os.getD j 0)) ∧ W.frozen? ⟨O, j, none⟩ = false := by
  refine ⟨cell_of h.o ?_, frozen_of_row _ _ _ _ _ h.o⟩
  rw [List.getD_eq_getElem?_getD, List.getElem?_eq_getElem hj]
  simp [hj]
theorem ix_six (O g : Nat) (h : g < 6) : ∀ wx, (Instr.indexAt 39 (.pointer (some ⟨O, 0, none⟩)) (.int .i64 (g : Int))).run Try.prog wx = .ok (.pointer (some ⟨O, g, none⟩)) wx := by
  match g, h with
  | 0, _ => exact fun _ => by kernel_rfl
  | 1, _ => exact fun _ => by kernel_rfl
  | 2, _ => exact fun _ => by kernel_rfl
  | 3, _ => exact fun _ => by kernel_rfl
  | 4, _ => exact fun _ => by kernel_rfl
  | 5, _ => exact fun _ => by kernel_rfl
theorem ix_pair (b o : Nat) (k : Nat) (h : k < 2) : ∀ wx, (Instr.indexAt 41 (.pointer (some ⟨b, o, none⟩)) (.int .i64 (k : Int))).run Try.prog wx = .ok (.pointer (some ⟨b, o + k, none⟩)) wx := by
  intro wx
  have u := Try.underlying41
  have z := Try.sizeOf3
  match k, h with
  | 0, _ => simp [Instr.indexAt, run_underlying u, asIntOf, go_sem, z]
  | 1, _ => simp [Instr.indexAt, run_underlying u, asIntOf, go_sem, z]
/-- What high holds, as far as it is reckoned. -/
def hghTo (h : Nat → Int) (n j : Nat) : List Int := (List.range n).map fun i => if i < j then h i + 1 else 0
theorem hghTo_len (h : Nat → Int) (n j : Nat) : (hghTo h n j).length = n := by simp [hghTo]
theorem hghTo_get {h : Nat → Int} {n j i : Nat} (hi : i < n) : (hghTo h n j).getD i 0 = if i < j then h i + 1 else 0 := by
  simp [hghTo, List.getD_eq_getElem?_getD, hi]
theorem hghTo_more {h : Nat → Int} {n j : Nat} {v : Int} (hj : j < n) (hv : v = h j + 1) : (hghTo h n j).set j v = hghTo h n (j + 1) := by
  subst hv
  apply List.ext_getElem?
  intro q
  simp only [hghTo, List.getElem?_set, List.length_map, List.length_range, List.getElem?_map]
  by_cases c : j = q
  · subst c; simp [hj]
  · rw [if_neg c]
    by_cases d : q < n
    · simp only [List.getElem?_range d, Option.map_some]
      by_cases e : q < j
      · rw [if_pos e, if_pos (by omega)]
      · rw [if_neg e, if_neg (by omega)]
    · simp [List.getElem?_range, d]
theorem hghTo_zero (h : Nat → Int) (n : Nat) : (some (Obj.cells (List.replicate n (Value.int .i64 0)).toArray 3 (0, 0)) : Option Obj) = some (objInts (hghTo h n 0)) := by
  congr 2
  apply Array.ext'
  simp only [List.toList_toArray]
  apply List.ext_getElem?
  intro k
  by_cases c : k < n
  · simp [hghTo, c, List.getElem?_replicate, List.getElem?_range]
  · simp [hghTo, c, List.getElem?_replicate, List.getElem?_range]
/-- What own holds. -/
def ownTo (g : Nat → Nat) (j : Nat) : List Int := (List.range 6).map fun a => ((cnt (fun k => g k == a) j : Nat) : Int)
theorem ownTo_get {g : Nat → Nat} {j a : Nat} (ha : a < 6) : (ownTo g j).getD a 0 = (cnt (fun k => g k == a) j : Int) := by
  simp [ownTo, List.getD_eq_getElem?_getD, ha]
theorem ownTo_more {g : Nat → Nat} {j : Nat} (hg : g j < 6) : (ownTo g j).set (g j) ((cnt (fun k => g k == g j) j : Int) + 1) = ownTo g (j + 1) := by
  apply List.ext_getElem?
  intro q
  simp only [ownTo, List.getElem?_set, List.length_map, List.length_range, List.getElem?_map]
  by_cases c : g j = q
  · subst c
    simp [hg, cnt]
  · rw [if_neg c]
    by_cases d : q < 6
    · simp only [List.getElem?_range d, Option.map_some]
      have : (g j == q) = false := by simpa using c
      simp [cnt, this]
    · simp [List.getElem?_range, d]
end Go.Proofs.Ytkhhkgfaakgdfaa.pg
/- The document's own Clocks and Height. -/
namespace Go.Proofs.Ytkhhkgfaakgdfaa.pg
open Go.ChangeShapes Go.WideShapes Go.ChangeAt Go.RowKit Go.Shelf
set_option linter.unusedVariables false
set_option linter.unusedSimpArgs false
set_option maxRecDepth 100000
attribute [local go_sem ↓] Go.wp_at_zero Go.wp_at_succ
/-- A clock as it is counted. -/
def rck (l : List Ev) (B : Nat → Nat → Bool) (j : Nat) : Nat → Ck
  | 0 => zeroK
  | k + 1 => if (k == j || B k j) = true then tk (rck l B j k) (gof l k) else rck l B j k
theorem rck_of {l : List Ev} (hrt : ∀ x ∈ l, rightP x) (B : Nat → Nat → Bool) (j : Nat) {a : Nat} (ha : a < 6) : ∀ k, k ≤ l.length → (rck l B j k).of a = (cnt (fun q => gof l q == a && (q == j || B q j)) k : Int)
  | 0, _ => by rw [rck, of_zero ha]; rfl
  | k + 1, h => by
    have ih := rck_of hrt B j ha k (by omega)
    have hg := gof_lt hrt (i := k) (by omega)
    have e : cnt (fun q => gof l q == a && (q == j || B q j)) (k + 1) = cnt (fun q => gof l q == a && (q == j || B q j)) k + (if (gof l k == a && (k == j || B k j)) = true then 1 else 0) := rfl
    rw [rck, e]
    by_cases c : (k == j || B k j) = true
    · rw [if_pos c, of_tk hg ha, ih, c, Bool.and_true]
      by_cases d : a = gof l k
      · subst d; simp
      · have : ¬ (gof l k == a) = true := by simp; exact fun q => d q.symm
        rw [if_neg d, if_neg this]; simp
    · have : ¬ (gof l k == a && (k == j || B k j)) = true := by simp only [Bool.and_eq_true]; exact fun q => c q.2
      rw [if_neg c, if_neg this, ih]; simp
theorem rck_is {l : List Ev} (hrt : ∀ x ∈ l, rightP x) {B : Nat → Nat → Bool} (hB : Tells (dpf l) B) {j : Nat} (hj : j < l.length) : rck l B j l.length = (rel (evf l) l.length).1.getD j zeroK := by
  refine ck_ext fun a ha => ?_
  rw [rck_of hrt B j ha l.length (Nat.le_refl _), rel_is hrt hB l.length (Nat.le_refl _) j _ (rel_get _ _ j hj) a ha, ckn_at hB hj]
theorem rck_all {l : List Ev} (hrt : ∀ x ∈ l, rightP x) {B : Nat → Nat → Bool} (hB : Tells (dpf l) B) : (List.range l.length).map (fun j => rck l B j l.length) = (rel (evf l) l.length).1 := by
  apply List.ext_getElem?
  intro k
  have hl := rel_len (evf l) l.length
  by_cases c : k < l.length
  · rw [List.getElem?_map, List.getElem?_range c, Option.map_some, rck_is hrt hB c, ← rel_get _ _ k c]
  · rw [List.getElem?_eq_none (by simp; omega), List.getElem?_eq_none (by omega)]
theorem rck_upto {l : List Ev} (hrt : ∀ x ∈ l, rightP x) (B : Nat → Nat → Bool) (j k : Nat) (hk : k ≤ l.length) {a : Nat} (ha : a < 6) : 0 ≤ (rck l B j k).of a ∧ (rck l B j k).of a ≤ k := by
  rw [rck_of hrt B j ha k hk]
  have := cnt_le (fun q => gof l q == a && (q == j || B q j)) k
  omega
theorem put_cellsK (x : Ck) (g : Nat) (v : Int) : x.cells.toArray.setIfInBounds g (.int .i64 v) = (x.put g v).cells.toArray := by
  have e : ∀ y : Ck, y.cells = y.list.map fun n => Value.int .i64 n := fun y => rfl
  apply Array.ext'
  rw [Array.toList_setIfInBounds]
  show (x.cells).set g (.int .i64 v) = (x.put g v).cells
  rw [e, e, put_list, List.map_set]
theorem InB.putv {W : World} {b g : Nat} {x : Ck} (h : InB W b x) (v : Int) : InB (W.setCell ⟨b, g, none⟩ (.int .i64 v)) b (x.put g v) := by
  have h' : W.heap[b]? = some (.cells x.cells.toArray 40) := h
  rw [setCell_eq_setRow W b g _ _ _ _ h', put_cellsK]
  exact setRow_heap W b _ _ _ _ h'
theorem infoKc : (Try.prog.info? 40).map (fun i => (i.zero, i.size, i.bytes)) = some (some (.agg zeroK.cells.toArray), 6, 48) := by kernel_rfl
theorem one6c2 (x : Ck) : ∀ u ∈ x.cells, u.oneCell' = true := by intro u hu; simp [Ck.cells] at hu; rcases hu with rfl | rfl | rfl | rfl | rfl | rfl <;> rfl
structure CksS (w wr : World) (L : List Ck) (va : Option Addr) (vc : Nat) : Prop where
  be : Below w.heap.size w wr
  ow : OwnL wr w.heap.size 40 6 va vc (L.map Ck.cells)
theorem CksS.later {w wr w' : World} {L : List Ck} {va : Option Addr} {vc : Nat} (h : CksS w wr L va vc) (hb : Below wr.heap.size wr w') : CksS w w' L va vc :=
  ⟨bthen h.be hb, own_keep h.ow fun b hb' => hb.block b (blk_lt h.ow b hb').2⟩
theorem CksS.grown {w wr w' : World} {L : List Ck} {va va' : Option Addr} {vc vc' : Nat} {x : Ck} (h : CksS w wr L va vc) (hg : Grown wr w.heap.size 40 6 va (L.map Ck.cells) x.cells va' vc' w') : CksS w w' (L ++ [x]) va' vc' :=
  ⟨below_min h.be h.be.size hg.be, by rw [List.map_append]; exact hg.ow⟩
/-- A clock in a new box, all else beyond. -/
structure CbS (wr W : World) (Cb : Nat) (x : Ck) : Prop where
  c : InB W Cb x
  b : Below wr.heap.size wr W
  l : wr.heap.size ≤ Cb
theorem CbS.put {wr W : World} {Cb : Nat} {x : Ck} (h : CbS wr W Cb x) (g : Nat) (v : Int) : CbS wr (W.setCell ⟨Cb, g, none⟩ (.int .i64 v)) Cb (x.put g v) :=
  ⟨h.c.putv v, h.b.setCell (p := ⟨Cb, g, none⟩) h.l _, h.l⟩
theorem CbS.cell {wr W : World} {Cb : Nat} {x : Ck} (h : CbS wr W Cb x) {g : Nat} (hg : g < 6) : W.cell? ⟨Cb, g, none⟩ = some (.int .i64 (x.of g)) ∧ W.frozen? ⟨Cb, g, none⟩ = false := by
  have h' : W.heap[Cb]? = some (.cells x.cells.toArray 40) := h.c
  exact ⟨cell_of h' (by have := ck_of (x := x) hg; simpa using this), frozen_of_row _ _ _ _ _ h'⟩
set_option maxHeartbeats 2000000 in
theorem rclocks_any (l : List Ev) (la : Option Addr) (lc : Nat) (w : World) (hl : Rows w 26 la lc (l.map Ev.cells)) (hlen : l.length ≤ 256) (hrt : ∀ x ∈ l, rightP x) (B : Nat → Nat → Bool) (hB : Tells (dpf l) B) :
    Calls Try.prog 17 #[.slice la l.length lc] w fun e w' => ∃ va vc, e = .returned (.slice va l.length vc) ∧ OwnL w' w.heap.size 40 6 va vc ((rel (evf l) l.length).1.map Ck.cells) ∧ Below w.heap.size w w' := by
  have cM := rbef_any l la lc w hl hlen B hB
  have hlI : (l.length : Int) ≤ 256 := by omega
  have hlH : Hid (Rows w 26 la lc (l.map Ev.cells)) := hl
  have hrtH : Hid (∀ x ∈ l, rightP x) := hrt
  have hall : Hid ((List.range l.length).map (fun j => rck l B j l.length) = (rel (evf l) l.length).1) := rck_all hrt hB
  obtain ⟨iK, hiK', hzK, hsK, hbK⟩ := info_q infoKc
  have iKH : Hid (Try.prog.info? 40 = some iK ∧ iK.zero = some (.agg zeroK.cells.toArray) ∧ iK.size = 6 ∧ iK.bytes = 48) := ⟨hiK', hzK, hsK, hbK⟩
  have huK : Hid (Try.prog.underlying 40 = _) := Try.underlying40
  clear hl hB hrt hiK' hzK hsK hbK
  go_enter Try.func17, Try.ntmps17
  go_wp2_with (first
    | (go_at_call 26; (with_reducible refine cM.mono ?_); rintro e w1 ⟨A, rb, rfl, hm'⟩; (have hm : Hid (RbS w w1 A l.length l.length rb B) := hm'); clear hm' cM))
  have s0 : Hid (CksS w1 w1 ((List.range 0).map (fun j => rck l B j l.length)) none 0) := ⟨Below.refl _ _, own_nil_q _ _ _ _⟩
  go_loopw [4, 5] (fun o u wr => ∃ (j : Nat) (va : Option Addr) (vc : Nat), j ≤ l.length ∧ u = .int .i64 j ∧ o = .slice va j vc ∧ Hid (CksS w1 wr ((List.range j).map (fun j => rck l B j l.length)) va vc)) (fun _ u _ => l.length - (intOf u).toNat)
  case atStart => exact ⟨0, none, 0, Nat.zero_le _, rfl, rfl, s0⟩
  case round =>
    obtain ⟨j, va, vc, hj, rfl, rfl, hs⟩ := hrel
    clear s0
    by_cases hlt : j < l.length
    · have hjI : (j : Int) < l.length := by omega
      have hmore : Hid ((List.range (j + 1)).map (fun j => rck l B j l.length) = (List.range j).map (fun j => rck l B j l.length) ++ [rck l B j l.length]) := by show _ = _; rw [List.range_succ, List.map_append]; rfl
      have hLl : Hid (((List.range j).map (fun j => rck l B j l.length)).length = j) := by show _ = _; simp
      have c0 : Hid (CbS wr (wr.alloc (.cells zeroK.cells.toArray 40)) wr.heap.size (rck l B j 0)) := ⟨heap_alloc_new _ _, boxed _ _, Nat.le_refl _⟩
      generalize (List.range j).map (fun j => rck l B j l.length) = L at *
      go_wp2_with (first
        | (refine wpList_store_new rfl 40 _ _ rfl rfl _ zeroK.cells.toArray rfl (by kernel_rfl) rfl (one6 zeroK) ?_))
      generalize wr.alloc (.cells zeroK.cells.toArray 40) = W1 at *
      obtain ⟨Cb, hCb⟩ : ∃ Cb, wr.heap.size = Cb := ⟨_, rfl⟩
      rw [hCb] at c0 ⊢
      clear hCb
      go_loopw [7] (fun u wq => ∃ k : Nat, k ≤ l.length ∧ u = .int .i64 k ∧ Hid (CbS wr wq Cb (rck l B j k))) (fun u _ => l.length - (intOf u).toNat)
      case atStart => exact ⟨0, Nat.zero_le _, rfl, c0⟩
      case round =>
        rename World => wq
        obtain ⟨k, hk, rfl, hc⟩ := hrel
        clear c0
        by_cases hkn : k < l.length
        · have hkI : (k : Int) < l.length := by omega
          have hBq := bthen hs.out.be hc.out.b
          have hmW := hm.out.m.later hBq
          have xA := ix_row A l.length k hkn
          have xR := ix_bool (rb k) l.length j hlt
          have rA := hmW.row hkn hkn
          have cR := (hmW.cell (i := k) (j := j) hkn hlt).1
          obtain ⟨eb, eo, e1, e2, e3⟩ := ev_row (hlH.out.later (bthen hm.out.b hBq)) k _ (evf_at hkn)
          obtain ⟨g0, g6⟩ := (hrtH.out _ (List.mem_of_getElem? (evf_at hkn))).1
          have hgN : ((gof l k : Nat) : Int) = (evf l k).go := Int.toNat_of_nonneg g0
          have hg : gof l k < 6 := by unfold gof; omega
          have cG : wq.cell? ⟨eb, eo, none⟩ = some (.int .i64 (evf l k).go) := e3 0 _ rfl
          have x6 := ck_at Cb (gof l k) hg
          rw [hgN] at x6
          have cC := hc.out.cell hg
          have hup := rck_upto hrtH.out B j k (by omega) hg
          have hw1 : wrap64 ((rck l B j k).of (gof l k) + 1) = (rck l B j k).of (gof l k) + 1 := by simp only [wrap64]; omega
          have hnx : Hid (CbS wr (wq.setCell ⟨Cb, gof l k, none⟩ (.int .i64 ((rck l B j k).of (gof l k) + 1))) Cb (tk (rck l B j k) (gof l k))) := hc.out.put _ _
          have hmr : Hid (rck l B j (k + 1) = if (k == j || B k j) = true then tk (rck l B j k) (gof l k) else rck l B j k) := rfl
          have cCH : Hid (_ ∧ _) := cC
          have cC1 := cC.1
          obtain ⟨P, hP⟩ : ∃ P, B k j = P := ⟨_, rfl⟩
          rw [hP] at cR hmr
          clear e2 e3 g0 g6 hgN hg hBq hmW cC hup hP
          generalize (rck l B j k).of (gof l k) = cv at *
          generalize (evf l k).go = gv at *
          by_cases hkj : k = j
          · subst hkj
            have hN : Hid (rck l B k (k + 1) = tk (rck l B k k) (gof l k)) := by show _ = _; rw [hmr.out, if_pos (by simp)]
            clear hmr
            go_wp2_with (first
              | (refine wpList_puti rfl 3 _ _ rfl ⟨Cb, gof l k, none⟩ rfl _ rfl (by kernel_rfl) _ cCH.out.1 cCH.out.2 ?_; intro W3 hW3; (have s3 : Hid (CbS wr W3 Cb (rck l B k (k + 1))) := by (rw [hW3, hw1, hN.out]; exact hnx.out)); clear hW3 hnx cCH cC1))
            go_roundw
            case rel => exact ⟨k + 1, by omega, by go_num, s3⟩
            case measure => simp [intOf]; omega
          · have hkjd : ((k : Int) == (j : Int)) = false := by rw [beq_eq_false_iff_ne]; omega
            have hkjn : (k == j) = false := by simpa using hkj
            rw [hkjn, Bool.false_or] at hmr
            clear hkjn hkj
            cases P with
            | true =>
              have hN : Hid (rck l B j (k + 1) = tk (rck l B j k) (gof l k)) := by show _ = _; rw [hmr.out, if_pos rfl]
              clear hmr
              go_wp2_with (first
                | (refine wpList_puti rfl 3 _ _ rfl ⟨Cb, gof l k, none⟩ rfl _ rfl (by kernel_rfl) _ cCH.out.1 cCH.out.2 ?_; intro W3 hW3; (have s3 : Hid (CbS wr W3 Cb (rck l B j (k + 1))) := by (rw [hW3, hw1, hN.out]; exact hnx.out)); clear hW3 hnx cCH cC1))
              go_roundw
              case rel => exact ⟨k + 1, by omega, by go_num, s3⟩
              case measure => simp [intOf]; omega
            | false =>
              have hN : Hid (rck l B j (k + 1) = rck l B j k) := by show _ = _; rw [hmr.out, if_neg Bool.false_ne_true]
              clear hmr
              go_wp2
              go_roundw
              case rel => exact ⟨k + 1, by omega, by go_num, by rw [hN.out]; exact hc⟩
              case measure => simp [intOf]; omega
        · have hk2 : k = l.length := by omega
          subst hk2
          obtain ⟨X, hX⟩ : ∃ X, rck l B j l.length = X := ⟨_, rfl⟩
          rw [hX] at hc hmore
          have hq : Hid (CksS w1 wq L va vc) := hs.out.later hc.out.b
          have hcK : Hid (wq.heap[Cb]? = some (.cells X.cells.toArray 40)) := hc.out.c
          have hLI : Hid (L.length = j) := hLl
          clear hX hc hs hLl
          go_wp2_with (first
            | (refine wpList_load_row rfl 40 _ rfl Cb rfl _ _ _ _ hcK.out huK.out rfl infoK ?_)
            | (refine wpList_buildSlice rfl 23 40 1 _ rfl X.cells.toArray iK _ Try.underlying23 iKH.out.1 iKH.out.2.1 (by rw [iKH.out.2.2.1]; omega) (by rw [iKH.out.2.2.1]; omega) (by simp only [iKH.out.2.2.1]; kernel_rfl) ?_)
            | (at_builtin; (refine wpList_app1 rfl (.tmp 44) (.tmp 46) 23 rfl w1.heap.size 40 iK _ 6 48 Try.underlying23 iKH.out.1 iKH.out.2.1 iKH.out.2.2.1 iKH.out.2.2.2 rfl (by decide) va vc (L.map Ck.cells) (by rw [List.length_map, hLI.out]; rfl) hq.out.ow X.cells rfl rfl (one6c2 X) (by rw [List.length_map, hLI.out]; unfold maxLen; omega) (by rw [List.length_map, hLI.out]; omega) hq.out.be.size ?_); intro va' vc' w2 hg; rw [List.length_map, hLI.out]; (have hg2 : Hid (CksS w1 w2 (L ++ [X]) va' vc') := hq.out.grown hg); clear hg))
          go_roundw
          case rel => exact ⟨j + 1, va', vc', by omega, by go_num, rfl, by rw [hmore.out]; exact hg2⟩
          case measure => simp [intOf]; omega
    · have hj2 : j = l.length := by omega
      subst hj2
      go_wp2
      go_ret
      exact ⟨va, vc, rfl, by rw [← hall.out]; exact own_mono_q hs.out.ow hm.out.b.size, bthen hm.out.b hs.out.be⟩
end Go.Proofs.Ytkhhkgfaakgdfaa.pg
