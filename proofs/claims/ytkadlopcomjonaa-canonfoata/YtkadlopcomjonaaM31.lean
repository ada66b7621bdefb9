/- OrderHigh: what its loops reckon. -/
import Derived.Test.YtkadlopcomjonaaM28
import Derived.Test.YtkadlopcomjonaaM30
import Derived.Test.YtkadlopcomjonaaM18
import Derived.BigQuiet
namespace Go.Proofs.Ytkadlopcomjonaa.pg
open Go.ChangeShapes Go.WideShapes Go.ChangeAt Go.RowKit Go.Shelf
set_option linter.unusedVariables false
set_option linter.unusedSimpArgs false
set_option maxRecDepth 100000
attribute [local go_sem ↓] Go.wp_at_zero Go.wp_at_succ
def vst (h : Nat → Int) (j : Nat) (v : Int) (p : Nat × Nat) : Int := if p.2 = j ∧ v < h p.1 + 2 then h p.1 + 2 else v
def vfold (h : Nat → Int) (j : Nat) (D : List (Nat × Nat)) : Int := D.foldl (vst h j) 1
theorem vfold_more (h : Nat → Int) (j : Nat) (D : List (Nat × Nat)) (p : Nat × Nat) : vfold h j (D ++ [p]) = vst h j (vfold h j D) p := by unfold vfold; rw [List.foldl_append]; rfl
theorem vfold_in (h : Nat → Int) (j : Nat) (X : Int) (hX : 1 ≤ X) : ∀ (n : Nat) (D : List (Nat × Nat)), D.length = n → (∀ p ∈ D, p.2 = j → h p.1 + 2 ≤ X) → 1 ≤ vfold h j D ∧ vfold h j D ≤ X ∧ ∀ p ∈ D, p.2 = j → h p.1 + 2 ≤ vfold h j D
  | 0, D, hn, _ => by
    have : D = [] := List.length_eq_zero_iff.mp hn
    subst this
    exact ⟨Int.le_refl _, hX, fun p hp => by simp at hp⟩
  | n + 1, D, hn, hD => by
    rcases List.eq_nil_or_concat D with rfl | ⟨q, x, rfl⟩
    · simp at hn
    · rw [List.concat_eq_append] at hn hD ⊢
      rw [List.length_append, List.length_singleton] at hn
      obtain ⟨i1, i2, i3⟩ := vfold_in h j X hX n q (by omega) fun p hp => hD p (List.mem_append_left _ hp)
      have hx := hD x (by simp)
      rw [vfold_more]
      generalize vfold h j q = v at *
      unfold vst
      split
      · rename_i c
        have := hx c.1
        refine ⟨by omega, this, fun p hp hpj => ?_⟩
        rw [List.mem_append, List.mem_singleton] at hp
        rcases hp with hp | rfl
        · have := i3 p hp hpj; omega
        · omega
      · rename_i c
        refine ⟨i1, i2, fun p hp hpj => ?_⟩
        rw [List.mem_append, List.mem_singleton] at hp
        rcases hp with hp | rfl
        · exact i3 p hp hpj
        · have : ¬ v < h p.1 + 2 := fun q => c ⟨hpj, q⟩
          omega
theorem vfold_is {n : Nat} {e : Nat → Nat → Bool} {h : Nat → Int} (hh : High n e h) {D : List (Nat × Nat)} (hD : ∀ p, p ∈ D ↔ p.1 < p.2 ∧ p.2 < n ∧ e p.1 p.2 = true) {j : Nat} (hj : j < n) : vfold h j D = h j + 1 := by
  have hp := hh.pos j hj
  obtain ⟨i1, i2, i3⟩ := vfold_in h j (h j + 1) (by omega) _ D rfl fun p hp hpj => by
    obtain ⟨q1, q2, q3⟩ := (hD p).mp hp
    subst hpj
    have := hh.up p.1 p.2 q1 q2 q3
    omega
  rcases hh.some j hj with q | ⟨i, q1, q2, q3⟩
  · omega
  · have := i3 (i, j) ((hD (i, j)).mpr ⟨q1, hj, q2⟩) rfl
    simp only at this
    omega
def mst (h : Nat → Int) : Nat → Int
  | 0 => 0
  | k + 1 => if mst h k < h k + 1 then h k + 1 else mst h k
theorem mst_in (h : Nat → Int) (n : Nat) (X : Int) (hX : 0 ≤ X) (hh : ∀ j, j < n → h j + 1 ≤ X) : ∀ k, k ≤ n → 0 ≤ mst h k ∧ mst h k ≤ X ∧ ∀ j, j < k → h j + 1 ≤ mst h k
  | 0, _ => ⟨Int.le_refl _, hX, fun j hj => by omega⟩
  | k + 1, hk => by
    obtain ⟨i1, i2, i3⟩ := mst_in h n X hX hh k (by omega)
    have hx := hh k (by omega)
    unfold mst
    split
    · refine ⟨by omega, hx, fun j hj => ?_⟩
      by_cases c : j = k
      · subst c; omega
      · have := i3 j (by omega); omega
    · refine ⟨i1, i2, fun j hj => ?_⟩
      by_cases c : j = k
      · subst c; omega
      · exact i3 j (by omega)
section
variable {l : List Ev} (hrt : ∀ x ∈ l, rightP x)
include hrt
/-- The height, as the law reckons it. -/
theorem mst_is : mst (fun j => (hfold l.length (rel (evf l) l.length).2).1.getD j 0) l.length = (hfold l.length (rel (evf l) l.length).2).2 := by
  obtain ⟨B, hB⟩ := tells_some (dpf l)
  have h := hi_rel hrt hB
  rcases h.hit with ⟨q1, q2⟩ | ⟨j, j1, j2⟩
  · rw [q2, q1]; rfl
  · have hp := h.pos j j1
    obtain ⟨_, i2, i3⟩ := mst_in (fun j => (hfold l.length (rel (evf l) l.length).2).1.getD j 0) l.length (hfold l.length (rel (evf l) l.length).2).2 (by omega) h.top l.length (Nat.le_refl _)
    have := i3 j j1
    omega
theorem hgt_le : 0 ≤ (hfold l.length (rel (evf l) l.length).2).2 ∧ (hfold l.length (rel (evf l) l.length).2).2 ≤ l.length ∧ (0 < l.length → 1 ≤ (hfold l.length (rel (evf l) l.length).2).2) := by
  obtain ⟨B, hB⟩ := tells_some (dpf l)
  have h := hi_rel hrt hB
  have hh := high_rel hrt hB
  have key : ∀ j, j < l.length → (hfold l.length (rel (evf l) l.length).2).1.getD j 0 ≤ (j : Int) := by
    intro j
    induction j using Nat.strongRecOn with
    | ind j ih =>
      intro hj
      rcases hh.some j hj with q | ⟨i, q1, q2, q3⟩
      · omega
      · have := ih i q1 (by omega)
        omega
  rcases h.hit with ⟨q1, q2⟩ | ⟨j, j1, j2⟩
  · rw [q2, q1]; omega
  · have := key j j1
    have hp := h.pos j j1
    omega
theorem own_le (g : Nat) : (cnt (fun k => gof l k == g) l.length : Int) ≤ (hfold l.length (rel (evf l) l.length).2).2 := by
  obtain ⟨B, hB⟩ := tells_some (dpf l)
  have h := hi_rel hrt hB
  exact ((high_rel hrt hB).own hB (ord_ok hrt) g _ (hgt_le hrt).1 h.top l.length (Nat.le_refl _)).1
theorem vfold_rel {D : List (Nat × Nat)} (hD : D.Perm (rel (evf l) l.length).2) {j : Nat} (hj : j < l.length) : vfold (fun j => (hfold l.length (rel (evf l) l.length).2).1.getD j 0) j D = (hfold l.length (rel (evf l) l.length).2).1.getD j 0 + 1 := by
  obtain ⟨B, hB⟩ := tells_some (dpf l)
  exact vfold_is (high_rel hrt hB) (fun p => by rw [hD.mem_iff]; exact edges_mem hrt hB p) hj
end
set_option maxHeartbeats 1000000 in
theorem height_bad (l : List Ev) (la : Option Addr) (lc : Nat) (w : World) (hl : Rows w 26 la lc (l.map Ev.cells)) (c : Int) (hc : checkP l c) (h0 : c = 2 ∨ c = 7) :
    Calls Try.prog 48 #[.slice la l.length lc] w fun e w' => e = .returned (.tuple #[.int .i64 0, .int .i64 c]) ∧ Below w.heap.size w w' := by
  have c1 := look_bad l la lc (.slice none 0 0) w hl c hc h0
  have hlI := rows_len hl
  clear hl hc
  rcases h0 with rfl | rfl
  all_goals
    go_enter Try.func48, Try.ntmps48
    go_wp2_with (first
      | (go_at_call 58; (with_reducible refine c1.mono ?_); rintro e w1 ⟨rfl, hb'⟩; (have hb : Hid (Below w.heap.size w w1) := hb'); clear hb' c1)
      | (refine wpList_store_new rfl 104 _ _ rfl rfl _ _ rfl (by kernel_rfl) rfl (one3 _ _ _ _ _ _ _ _ _) ?_))
    go_ret2
    exact ⟨rfl, bthen hb.out (boxed _ _)⟩
/-- How far the loops have come: what the law's two lists hold. -/
structure OhSt (We W : World) (A O : Nat) (hs os : List Int) : Prop where
  a : W.heap[A]? = some (objInts hs)
  o : W.heap[O]? = some (.cells (os.map fun v => Value.int .i64 v).toArray 85)
  b : Below We.heap.size We W
  ne : A ≠ O
  la : We.heap.size ≤ A
  lo : We.heap.size ≤ O
theorem OhSt.later {We W W' : World} {A O : Nat} {hs os : List Int} (h : OhSt We W A O hs os) (hb : Below W.heap.size W W') : OhSt We W' A O hs os :=
  ⟨(hb.block _ (Array.getElem?_eq_some_iff.mp h.a).1).trans h.a, (hb.block _ (Array.getElem?_eq_some_iff.mp h.o).1).trans h.o, bthen h.b hb, h.ne, h.la, h.lo⟩
theorem OhSt.setA {We W : World} {A O : Nat} {hs os : List Int} (h : OhSt We W A O hs os) (j : Nat) (v : Int) : OhSt We (W.setCell ⟨A, j, none⟩ (.int .i64 v)) A O (hs.set j v) os := by
  rw [setCell_eq_setRow W A j _ _ _ _ h.a]
  refine ⟨?_, (setRow_other _ _ _ _ (Ne.symm h.ne)).trans h.o, below_setRow h.b h.la _, h.ne, h.la, h.lo⟩
  rw [setRow_heap W A _ _ _ _ h.a]
  simp [List.map_set]
theorem OhSt.setO {We W : World} {A O : Nat} {hs os : List Int} (h : OhSt We W A O hs os) (j : Nat) (v : Int) : OhSt We (W.setCell ⟨O, j, none⟩ (.int .i64 v)) A O hs (os.set j v) := by
  rw [setCell_eq_setRow W O j _ _ _ _ h.o]
  refine ⟨(setRow_other _ _ _ _ h.ne).trans h.a, ?_, below_setRow h.b h.lo _, h.ne, h.la, h.lo⟩
  rw [setRow_heap W O _ _ _ _ h.o]
  simp [List.map_set]
theorem OhSt.cellA {We W : World} {A O : Nat} {hs os : List Int} (h : OhSt We W A O hs os) {j : Nat} (hj : j < hs.length) : W.cell? ⟨A, j, none⟩ = some (.int .i64 (hs.getD j 0)) ∧ W.frozen? ⟨A, j, none⟩ = false := by
  refine ⟨cell_of h.a ?_, frozen_of_row _ _ _ _ _ h.a⟩
  rw [List.getD_eq_getElem?_getD, List.getElem?_eq_getElem hj]
  simp [hj]
theorem OhSt.cellO {We W : World} {A O : Nat} {hs os : List Int} (h : OhSt We W A O hs os) {j : Nat} (hj : j < os.length) : W.cell? ⟨O, j, none⟩ = some (.int .i64 (os.getD j 0)) ∧ W.frozen? ⟨O, j, none⟩ = false := by
  refine ⟨cell_of h.o ?_, frozen_of_row _ _ _ _ _ h.o⟩
  rw [List.getD_eq_getElem?_getD, List.getElem?_eq_getElem hj]
  simp [hj]
theorem ix_sixN (O g : Nat) (h : g < 6) : ∀ wx, (Instr.indexAt 85 (.pointer (some ⟨O, 0, none⟩)) (.int .i64 (g : Int))).run Try.prog wx = .ok (.pointer (some ⟨O, g, none⟩)) wx := by
  match g, h with
  | 0, _ => exact fun _ => by kernel_rfl
  | 1, _ => exact fun _ => by kernel_rfl
  | 2, _ => exact fun _ => by kernel_rfl
  | 3, _ => exact fun _ => by kernel_rfl
  | 4, _ => exact fun _ => by kernel_rfl
  | 5, _ => exact fun _ => by kernel_rfl
theorem ix_pair (b o : Nat) (k : Nat) (h : k < 2) : ∀ wx, (Instr.indexAt 94 (.pointer (some ⟨b, o, none⟩)) (.int .i64 (k : Int))).run Try.prog wx = .ok (.pointer (some ⟨b, o + k, none⟩)) wx := by
  intro wx
  have u := Try.underlying94
  have z := Try.sizeOf3
  match k, h with
  | 0, _ => simp [Instr.indexAt, run_underlying u, asIntOf, go_sem, z]
  | 1, _ => simp [Instr.indexAt, run_underlying u, asIntOf, go_sem, z]
/-- What high holds, as far as it is reckoned. -/
def hghTo (h : Nat → Int) (n j : Nat) : List Int := (List.range n).map fun i => if i < j then h i + 1 else 0
theorem hghTo_len (h : Nat → Int) (n j : Nat) : (hghTo h n j).length = n := by simp [hghTo]
theorem hghTo_get {h : Nat → Int} {n j i : Nat} (hi : i < n) : (hghTo h n j).getD i 0 = if i < j then h i + 1 else 0 := by
  simp [hghTo, List.getD_eq_getElem?_getD, hi]
theorem hghTo_more {h : Nat → Int} {n j : Nat} {v : Int} (hj : j < n) (hv : v = h j + 1) : (hghTo h n j).set j v = hghTo h n (j + 1) := by
  subst hv
  apply List.ext_getElem?
  intro q
  simp only [hghTo, List.getElem?_set, List.length_map, List.length_range, List.getElem?_map]
  by_cases c : j = q
  · subst c; simp [hj]
  · rw [if_neg c]
    by_cases d : q < n
    · simp only [List.getElem?_range d, Option.map_some]
      by_cases e : q < j
      · rw [if_pos e, if_pos (by omega)]
      · rw [if_neg e, if_neg (by omega)]
    · simp [List.getElem?_range, d]
theorem hghTo_zero (h : Nat → Int) (n : Nat) : (some (Obj.cells (List.replicate n (Value.int .i64 0)).toArray 3 (0, 0)) : Option Obj) = some (objInts (hghTo h n 0)) := by
  congr 2
  apply Array.ext'
  simp only [List.toList_toArray]
  apply List.ext_getElem?
  intro k
  by_cases c : k < n
  · simp [hghTo, c, List.getElem?_replicate, List.getElem?_range]
  · simp [hghTo, c, List.getElem?_replicate, List.getElem?_range]
/-- What own holds. -/
def ownTo (g : Nat → Nat) (j : Nat) : List Int := (List.range 6).map fun a => ((cnt (fun k => g k == a) j : Nat) : Int)
theorem ownTo_get {g : Nat → Nat} {j a : Nat} (ha : a < 6) : (ownTo g j).getD a 0 = (cnt (fun k => g k == a) j : Int) := by
  simp [ownTo, List.getD_eq_getElem?_getD, ha]
theorem ownTo_more {g : Nat → Nat} {j : Nat} (hg : g j < 6) : (ownTo g j).set (g j) ((cnt (fun k => g k == g j) j : Int) + 1) = ownTo g (j + 1) := by
  apply List.ext_getElem?
  intro q
  simp only [ownTo, List.getElem?_set, List.length_map, List.length_range, List.getElem?_map]
  by_cases c : g j = q
  · subst c
    simp [hg, cnt]
  · rw [if_neg c]
    by_cases d : q < 6
    · simp only [List.getElem?_range d, Option.map_some]
      have : (g j == q) = false := by simpa using c
      simp [cnt, this]
    · simp [List.getElem?_range, d]
end Go.Proofs.Ytkadlopcomjonaa.pg
/- placed and Linear of package order. -/
namespace Go.Proofs.Ytkadlopcomjonaa.pg
open Go.ChangeShapes Go.WideShapes Go.ChangeAt Go.RowKit Go.Shelf
set_option linter.unusedVariables false
set_option linter.unusedSimpArgs false
set_option maxRecDepth 100000
attribute [local go_sem ↓] Go.wp_at_zero Go.wp_at_succ
theorem infoP2s : (Try.prog.info? 94).map (·.size) = some 2 := by kernel_rfl
set_option maxHeartbeats 2000000 in
theorem placed_any (pi pj n A : Nat) (x y : Int) (w : World) (hpi : pi < n) (hpj : pj < n) (hA : A < w.heap.size) (cx : w.cell? ⟨A, pi, none⟩ = some (.int .i64 x)) (cy : w.cell? ⟨A, pj, none⟩ = some (.int .i64 y)) (q : Nat × Nat) (hq : Hid (q = if y < x then (pj, pi) else (pi, pj))) :
    Calls Try.prog 61 #[.agg (edg (pi, pj)).toArray, .slice (some ⟨A, 0, none⟩) n n] w fun e w' => e = .returned (.agg (edg q).toArray) ∧ Below w.heap.size w w' := by
  have huP : Hid (Try.prog.underlying 94 = _) := Try.underlying94
  have hb := boxed2 w (.cells (edg (pi, pj)).toArray 94) (.cells #[.int .i64 0, .int .i64 0] 94)
  have h0 : ((w.alloc (.cells (edg (pi, pj)).toArray 94)).alloc (.cells #[.int .i64 0, .int .i64 0] 94)).heap[w.heap.size]? = some (.cells (edg (pi, pj)).toArray 94) := (Below.heap_alloc _ _ _ (by simp [World.size_alloc])).trans (heap_alloc_new w _)
  have h1 : ((w.alloc (.cells (edg (pi, pj)).toArray 94)).alloc (.cells #[.int .i64 0, .int .i64 0] 94)).heap[w.heap.size + 1]? = some (.cells #[.int .i64 0, .int .i64 0] 94) := by
    have := heap_alloc_new (w.alloc (.cells (edg (pi, pj)).toArray 94)) (.cells #[.int .i64 0, .int .i64 0] 94)
    rwa [World.size_alloc] at this
  have y0 : ∀ wx, (Instr.indexAt 94 (.pointer (some ⟨w.heap.size, 0, none⟩)) (.int .i64 0)).run Try.prog wx = .ok (.pointer (some ⟨w.heap.size, 0, none⟩)) wx := fun wx => by
    have u := Try.underlying94
    have z := Try.sizeOf3
    simp [Instr.indexAt, run_underlying u, asIntOf, go_sem, z]
  have y1 : ∀ wx, (Instr.indexAt 94 (.pointer (some ⟨w.heap.size, 0, none⟩)) (.int .i64 1)).run Try.prog wx = .ok (.pointer (some ⟨w.heap.size, 1, none⟩)) wx := fun wx => by
    have u := Try.underlying94
    have z := Try.sizeOf3
    simp [Instr.indexAt, run_underlying u, asIntOf, go_sem, z]
  have xI := ix_int A n pi hpi
  have xJ := ix_int A n pj hpj
  have hbA := hb.block A hA
  have hc0 := (World.cell?_of_block (a := ⟨A, pi, none⟩) hbA).trans cx
  have hc1 := (World.cell?_of_block (a := ⟨A, pj, none⟩) hbA).trans cy
  go_enter Try.func61, Try.ntmps61
  go_wp2_with fail
  have d0 : ((w.alloc (.cells (edg (pi, pj)).toArray 94)).alloc (.cells #[.int .i64 0, .int .i64 0] 94)).cell? ⟨w.heap.size, 0, none⟩ = some (.int .i64 (pi : Int)) := cell_of h0 rfl
  have d1 : ((w.alloc (.cells (edg (pi, pj)).toArray 94)).alloc (.cells #[.int .i64 0, .int .i64 0] 94)).cell? ⟨w.heap.size, 1, none⟩ = some (.int .i64 (pj : Int)) := cell_of h0 rfl
  clear hbA cx cy
  generalize (w.alloc (.cells (edg (pi, pj)).toArray 94)).alloc (.cells #[.int .i64 0, .int .i64 0] 94) = W at *
  have hH : Hid (W.heap[w.heap.size]? = some (.cells (edg (pi, pj)).toArray 94) ∧ W.heap[w.heap.size + 1]? = some (.cells #[.int .i64 0, .int .i64 0] 94) ∧ Below w.heap.size w W) := ⟨h0, h1, hb⟩
  clear h0 h1 hb
  by_cases hlt : y < x
  · have hq2 : q = (pj, pi) := by rw [hq.out, if_pos hlt]
    subst hq2
    clear hq
    have hd : decide (y < x) = true := by simp [hlt]
    have hone : Hid ((edg (pj, pi)).toArray.all (·.oneCell') = true) := (by show _ = _; simp [edg, Value.oneCell'])
    go_quiet (fail)
    go_wp2_with (first
      | (refine wpList_store_row rfl 94 _ _ rfl (w.heap.size + 1) (edg (pj, pi)).toArray rfl rfl _ _ hH.out.2.1 infoP2s rfl hone.out ?_))
    exact bodyPost_ret (results_cell_row Try.results61 _ _ (w.heap.size + 1) 94 _ (0, 0) _ rfl (setRow_heap W (w.heap.size + 1) _ _ _ _ hH.out.2.1) huP.out rfl infoP2s) rfl ⟨rfl, below_setRow (below_drewN hH.out.2.2 _) (by omega) _⟩
  · have hq2 : q = (pi, pj) := by rw [hq.out, if_neg hlt]
    subst hq2
    clear hq
    have hd : decide (y < x) = false := by simp [hlt]
    have hone : Hid ((edg (pi, pj)).toArray.all (·.oneCell') = true) := (by show _ = _; simp [edg, Value.oneCell'])
    go_quiet (fail)
    go_wp2_with (first
      | (refine wpList_load_row rfl 94 _ rfl w.heap.size rfl _ _ _ _ hH.out.1 huP.out rfl infoP2s ?_)
      | (refine wpList_store_row rfl 94 _ _ rfl (w.heap.size + 1) (edg (pi, pj)).toArray rfl rfl _ _ hH.out.2.1 infoP2s rfl hone.out ?_))
    exact bodyPost_ret (results_cell_row Try.results61 _ _ (w.heap.size + 1) 94 _ (0, 0) _ rfl (setRow_heap W (w.heap.size + 1) _ _ _ _ hH.out.2.1) huP.out rfl infoP2s) rfl ⟨rfl, below_setRow (below_drewN hH.out.2.2 _) (by omega) _⟩
end Go.Proofs.Ytkadlopcomjonaa.pg
/- Linear of package order. -/
namespace Go.Proofs.Ytkadlopcomjonaa.pg
open Go.ChangeShapes Go.WideShapes Go.ChangeAt Go.RowKit Go.Shelf
set_option linter.unusedVariables false
set_option linter.unusedSimpArgs false
set_option maxRecDepth 100000
attribute [local go_sem ↓] Go.wp_at_zero Go.wp_at_succ
/-- Where each is, as far as the list is read. -/
def atS (n : Nat) (ps : List Int) : Nat → List Int
  | 0 => List.replicate n 0
  | k + 1 => (atS n ps k).set (ps.getD k 0).toNat (k : Int)
theorem atS_len (n : Nat) (ps : List Int) : ∀ k, (atS n ps k).length = n
  | 0 => by simp [atS]
  | k + 1 => by rw [atS, List.length_set]; exact atS_len n ps k
theorem atS_more {n : Nat} {ps : List Int} {k a : Nat} (h : ps[k]? = some (a : Int)) : (atS n ps k).set a (k : Int) = atS n ps (k + 1) := by
  rw [atS, List.getD_eq_getElem?_getD, h]; rfl
def linOk (s : List Int) (p : Nat × Nat) : Bool := !decide (s.getD p.2 0 < s.getD p.1 0)
def linB (E : List (Nat × Nat)) (s : List Int) : Bool := E.all (linOk s)
def eqP (p q : Nat × Nat) : Bool := p.1 == q.1 && p.2 == q.2
theorem swp_is (s : List Int) (p : Nat × Nat) (h : p.1 < p.2) : eqP (if s.getD p.2 0 < s.getD p.1 0 then (p.2, p.1) else (p.1, p.2)) p = linOk s p := by
  unfold linOk eqP
  generalize s.getD p.2 0 = x
  generalize s.getD p.1 0 = y
  by_cases c : x < y
  · have : ¬ p.2 = p.1 := by omega
    simp [c, this]
  · simp [c]
theorem run_inP (p q : Nat × Nat) (w : World) : (Op.equalIn 10000 94 (.agg (edg p).toArray) (.agg (edg q).toArray)).run Try.prog w = .ok (eqP p q) w := by
  obtain ⟨i, hi⟩ := infoI_some
  have hc1 : Try.prog.cellsOf 3 = 1 := by kernel_rfl
  have u1 := Try.underlying3
  have a1 := Try.isAgg3
  have z1 := Try.sizeOf3
  obtain ⟨p1, p2⟩ := p
  obtain ⟨q1, q2⟩ := q
  rw [show (10000 : Nat) = 9999 + 1 from rfl, run_equalIn_array w 9999 _ _ Try.underlying94 hi, hc1]
  simp only [List.range, List.range.loop, Op.eqItems, edg]
  go_simp
  by_cases h0 : p1 = q1
  · subst h0
    by_cases h1 : p2 = q2
    · subst h1; simp [eqP]
    · have : ¬ ((p2 : Int) = (q2 : Int)) := by omega
      simp [eqP, h1, this]
  · have : ¬ ((p1 : Int) = (q1 : Int)) := by omega
    simp [eqP, h0, this]
theorem run_neP (p q : Nat × Nat) (w : World) : (binOp .neq 94 (.agg (edg p).toArray) (.agg (edg q).toArray)).run Try.prog w = .ok (.bool (!eqP p q)) w := by
  rw [run_neq_struct, run_inP]; rfl
set_option maxHeartbeats 1000000 in
theorem linear_err (l : List Ev) (la : Option Addr) (lc : Nat) (ps : List Int) (pa : Option Addr) (pc : Nat) (w : World) (hl : Rows w 26 la lc (l.map Ev.cells)) (hp : Rows w 1 pa pc (ps.map chCells)) (c : Int) (hc : lookP l ps c) :
    Calls Try.prog 31 #[.slice la l.length lc, .slice pa ps.length pc] w fun e w' => e = .returned (.tuple #[.bool false, .int .i64 c]) ∧ Below w.heap.size w w' := by
  have c1 := look_err l la lc ps pa pc w hl hp c hc
  have h7 := lookP_c hc
  clear hl hc hp
  rcases h7 with rfl | rfl | rfl
  all_goals
    go_enter Try.func31, Try.ntmps31
    go_wp2_with (first
      | (go_at_call 58; (refine c1.mono ?_); rintro e w1 ⟨rfl, hb'⟩; (have hb : Hid (Below w.heap.size w w1) := hb'); clear hb' c1)
      | (refine wpList_store_new rfl 104 _ _ rfl rfl _ _ rfl (by kernel_rfl) rfl (one3 _ _ _ _ _ _ _ _ _) ?_))
    go_ret2
    exact ⟨rfl, bthen hb.out (boxed _ _)⟩
set_option maxHeartbeats 4000000 in
theorem linear_ok (l : List Ev) (la : Option Addr) (lc : Nat) (ps : List Int) (pa : Option Addr) (pc : Nat) (w : World) (hl : Rows w 26 la lc (l.map Ev.cells)) (hp : Rows w 1 pa pc (ps.map chCells)) (hlen : l.length ≤ 256) (hrt : ∀ x ∈ l, rightP x) (hps : ps.length ≤ 256) (hin : ∀ p ∈ ps, 0 ≤ p ∧ p < l.length) (hn : ps.length = l.length) (hd : (lst (fOf ps) 256).length = l.length) (R : Bool) (hR : Hid (R = linB (rel (evf l) l.length).2 (atS l.length ps ps.length))) :
    Calls Try.prog 31 #[.slice la l.length lc, .slice pa ps.length pc] w fun e w' => e = .returned (.tuple #[.bool R, .int .i64 0]) ∧ Below w.heap.size w w' := by
  have c1 := look_any l la lc ps pa pc w hl hp hlen hrt hps hin
  have hpI := rows_len hp
  have hin2 : ∀ p ∈ ps, 0 ≤ p ∧ p < 256 := fun p hp => by have := hin p hp; omega
  have hpH : Hid (Rows w 1 pa pc (ps.map chCells)) := hp
  have hinH : Hid (∀ p ∈ ps, 0 ≤ p ∧ p < l.length) := hin
  have hlI2 : (l.length : Int) ≤ 256 := by omega
  have hne1 : ((ps.length : Int) != (l.length : Int)) = false := by rw [hn]; simp
  have hne2 : ((l.length : Int) != (l.length : Int)) = false := by simp
  obtain ⟨iN, hiN, hzN, hsN, hbN⟩ := info_q infoN_u
  have hb8 : iN.bytes * l.length ≤ 281474976710656 := by rw [hbN]; omega
  have hElH : Hid ((rel (evf l) l.length).2.length ≤ 65536) := by have := rel_edges (evf l) l.length hlen; show _ ≤ _; omega
  have hpr : Hid (∀ p ∈ (rel (evf l) l.length).2, p.1 < p.2 ∧ p.2 < l.length) := rel_pairs (evf l) l.length
  obtain ⟨G, hG⟩ : ∃ G, boolRow 256 (fOf ps) = G := ⟨_, rfl⟩
  have cO : ∀ wx, Below w.heap.size w wx → Calls Try.prog 59 #[.slice pa ps.length pc] wx fun e w' => e = .returned (.agg G) ∧ Below wx.heap.size wx w' := fun wx hb => by rw [← hG]; exact setOf_any ps pa pc wx (hpH.out.later hb) hin2
  have cL : ∀ wx, Calls Try.prog 60 #[.agg G] wx fun e w' => ∃ va vc, e = .returned (.slice va l.length vc) ∧ Below wx.heap.size wx w' := fun wx => by
    rw [← hG]
    exact (list_any _ wx).mono (by rintro e w' ⟨va, vc, rfl, h⟩; exact ⟨va, vc, by rw [hd], h.be⟩)
  have hnH : Hid (ps.length = l.length) := hn
  clear hl hp hin hrt hd hG hin2 hn
  go_enter Try.func31, Try.ntmps31
  go_wp2_with (first
    | (go_at_call 58; (refine c1.mono ?_); rintro e w1 ⟨ca, cc, da, dc, rfl, oc', oe', hb'⟩; (have rB : Hid (RelB w _ l la lc w1.heap.size ca cc da dc) := relB_new (Nat.le_refl _) oc' oe' hb'); clear oc' oe' hb' c1)
    | (refine wpList_store_new rfl 104 _ _ rfl rfl _ _ rfl (by kernel_rfl) rfl (one3 _ _ _ _ _ _ _ _ _) ?_)
    | (go_at_call 59; (refine (cO _ rB.out.b).mono ?_); rintro e w2 ⟨rfl, hb2⟩; (have r2 : Hid (RelB w w2 l la lc w1.heap.size ca cc da dc) := rB.out.later hb2); clear hb2 cO rB)
    | (go_at_call 60; (refine (cL _).mono ?_); rintro e w3 ⟨va, vc, rfl, hb3⟩; (have r3 : Hid (RelB w w3 l la lc w1.heap.size ca cc da dc) := r2.out.later hb3); clear hb3 cL r2)
    | (refine wpList_mk _ rfl _ _ 39 rfl 3 iN (.int .i64 0) Try.underlying39 hiN hzN rfl hsN l.length rfl rfl hb8 (by omega) ?_; intro W hwh hbW hsW))
  have s0 : Hid (HSt w l.length w3.heap.size da dc (rel (evf l) l.length).2 (atS l.length ps 0) W ∧ W.heap[w1.heap.size]? = some (.cells #[.slice la l.length lc, .slice ca l.length cc, .slice da (rel (evf l) l.length).2.length dc] 104)) := ⟨⟨by rw [hwh]; simp [atS], own_keep r3.out.e fun b hb' => hbW.block b (blk_lt r3.out.e b hb').2, bthen r3.out.b hbW, fun b hb' => (blk_lt r3.out.e b hb').2, r3.out.b.size⟩, (r3.out.later hbW).r⟩
  have hlt : Hid (w1.heap.size < w3.heap.size) := (Array.getElem?_eq_some_iff.mp r3.out.r).1
  clear hwh hbW hsW r3
  generalize w3.heap.size = A at *
  generalize w1.heap.size = Rr at *
  generalize (rel (evf l) l.length).2 = E at *
  have hEI : (E.length : Int) ≤ 65536 := by have := hElH.out; omega
  go_loopw [43] (fun u wr => ∃ k : Nat, k ≤ ps.length ∧ u = .int .i64 k ∧ Hid (HSt w l.length A da dc E (atS l.length ps k) wr ∧ wr.heap[Rr]? = some (.cells #[.slice la l.length lc, .slice ca l.length cc, .slice da E.length dc] 104))) (fun u _ => ps.length - (intOf u).toNat)
  case atStart => exact ⟨0, Nat.zero_le _, rfl, s0⟩
  case round =>
    obtain ⟨k, hk, rfl, hs⟩ := hrel
    clear s0
    by_cases hkl : k < ps.length
    · obtain ⟨y, hy, hym⟩ := get_lt ps k hkl
      obtain ⟨y0, y1⟩ := hinH.out y hym
      obtain ⟨b1, o1, hix1, hbl1, c1⟩ := ch_ix (hpH.out.later hs.out.1.b) k y hy
      obtain ⟨a, rfl⟩ := Int.eq_ofNat_of_zero_le y0
      have hkI : (k : Int) < ps.length := by omega
      have xA := ix_int A l.length a (by omega)
      have hcl : Hid (wr.cell? ⟨A, a, none⟩ = some (.int .i64 ((atS l.length ps k).getD a 0)) ∧ wr.frozen? ⟨A, a, none⟩ = false) := hs.out.1.cell (by rw [atS_len]; omega)
      have hnx : Hid (HSt w l.length A da dc E (atS l.length ps (k + 1)) (wr.setCell ⟨A, a, none⟩ (.int .i64 (k : Int))) ∧ (wr.setCell ⟨A, a, none⟩ (.int .i64 (k : Int))).heap[Rr]? = some (.cells #[.slice la l.length lc, .slice ca l.length cc, .slice da E.length dc] 104)) := by
        refine ⟨?_, (Below.heap_setCell _ _ _ _ (by show Rr ≠ A; have := hlt.out; omega)).trans hs.out.2⟩
        rw [← atS_more hy]
        exact hs.out.1.set a k
      clear hs hy hym y0 y1 hbl1
      go_wp2_with (first
        | (refine wpList_puti rfl 3 _ _ rfl ⟨A, a, none⟩ rfl (k : Int) rfl (by kernel_rfl) _ hcl.out.1 hcl.out.2 ?_; intro W3 hW3; (have s3 : Hid (HSt w l.length A da dc E (atS l.length ps (k + 1)) W3 ∧ W3.heap[Rr]? = some (.cells #[.slice la l.length lc, .slice ca l.length cc, .slice da E.length dc] 104)) := by (rw [hW3]; exact hnx.out)); clear hW3 hnx hcl))
      go_roundw
      case rel => exact ⟨k + 1, by omega, by go_num, s3⟩
      case measure => simp [intOf]; omega
    · have hk2 : k = ps.length := by omega
      subst hk2
      have hx2 := cell_of (k := 2) (v := .slice da E.length dc) hs.out.2 rfl
      have s1 : Hid (HSt w l.length A da dc E (atS l.length ps ps.length) wr) := hs.out.1
      clear hs hpH hinH
      have hsl := atS_len l.length ps ps.length
      generalize atS l.length ps ps.length = s at *
      go_wp2_with fail
      clear hx2
      go_loopw [56] (fun u wr => ∃ k : Nat, k ≤ E.length ∧ u = .int .i64 k ∧ Hid (HSt w l.length A da dc E s wr ∧ ∀ p ∈ E.take k, linOk s p = true)) (fun u _ => E.length - (intOf u).toNat)
      case atStart => exact ⟨0, Nat.zero_le _, rfl, ⟨s1.out, by simp⟩⟩
      case round =>
        obtain ⟨k, hk, rfl, hs⟩ := hrel
        clear s1
        by_cases hlt : k < E.length
        · obtain ⟨p, hp, hpm⟩ := get_lt E k hlt
          obtain ⟨p1, p2⟩ := hpr.out p hpm
          have hkI : (k : Int) < E.length := by omega
          have hr : Rows wr 2 da dc (E.map edg) := own_rows hs.out.1.e fun row hm => by rw [List.mem_map] at hm; obtain ⟨y, _, rfl⟩ := hm; rfl
          obtain ⟨b, o, hix, hbl, hrg⟩ := hr.ix 91 94 Try.underlying91 (by kernel_rfl) (fun wx => Try.sizeOf94 wx) k (row := edg p) (by simp [hp])
          rw [List.length_map] at hix
          have hrH : Hid (wr.rangeAt b o (edg p)) := hrg
          have huP : Hid (Try.prog.underlying 94 = _) := Try.underlying94
          have hiP : Hid ((Try.prog.info? 94).map (·.size) = some 2) := by show _ = _; kernel_rfl
          have hsP : Hid (HSt w l.length A da dc E s (wr.alloc (.cells (edg p).toArray 94))) := hs.out.1.later (boxed wr (.cells (edg p).toArray 94))
          have hPP : Hid ((wr.alloc (.cells (edg p).toArray 94)).heap[wr.heap.size]? = some (.cells (edg p).toArray 94)) := heap_alloc_new wr (.cells (edg p).toArray 94)
          have hall : Hid (∀ p ∈ E.take k, linOk s p = true) := hs.out.2
          clear hr hrg hs
          have hmore : linOk s p = true → Hid (∀ p ∈ E.take (k + 1), linOk s p = true) := fun h => by
            intro q hq
            rw [take_one E k p hp, List.mem_append, List.mem_singleton] at hq
            rcases hq with hq | rfl
            · exact hall.out q hq
            · exact h
          have hbad : linOk s p = false → Hid (R = false) := fun h => by
            show _ = _
            rw [hR.out]
            unfold linB
            rw [List.all_eq_false]
            exact ⟨p, hpm, by rw [h]; decide⟩
          obtain ⟨q, hq⟩ : ∃ q, q = if s.getD p.2 0 < s.getD p.1 0 then (p.2, p.1) else (p.1, p.2) := ⟨_, rfl⟩
          have hqe : eqP q p = linOk s p := by
            rw [hq]
            exact swp_is s p p1
          have heq : ∀ wx, (binOp .neq 94 (.agg (edg q).toArray) (.agg (edg p).toArray)).run Try.prog wx = .ok (.bool (!linOk s p)) wx := fun wx => by rw [run_neP, hqe]
          have cC : ∀ wx, HSt w l.length A da dc E s wx → Calls Try.prog 61 #[.agg (edg p).toArray, .slice (some ⟨A, 0, none⟩) l.length l.length] wx fun e w' => e = .returned (.agg (edg q).toArray) ∧ Below wx.heap.size wx w' := fun wx h => by
            have h1 := (h.cell (j := p.1) (by rw [hsl]; omega)).1
            have h2 := (h.cell (j := p.2) (by rw [hsl]; omega)).1
            exact placed_any p.1 p.2 l.length A _ _ wx (by omega) p2 (Array.getElem?_eq_some_iff.mp h.a).1 h1 h2 q hq
          go_wp2_with (first
            | (refine wpList_load_mid rfl 94 _ rfl b o rfl (edg p) _ hrH.out huP.out rfl hiP.out ?_)
            | (refine wpList_store_new rfl 94 _ _ rfl rfl _ (edg p).toArray rfl (by kernel_rfl) rfl (by simp [edg, Value.oneCell']) ?_))
          obtain ⟨W2, hW2⟩ : ∃ W2, wr.alloc (.cells (edg p).toArray 94) = W2 := ⟨_, rfl⟩
          rw [hW2] at hsP hPP ⊢
          clear hW2 hrH hix hq hqe
          obtain ⟨Sb, hSb⟩ : ∃ Sb, wr.heap.size = Sb := ⟨_, rfl⟩
          rw [hSb] at hPP ⊢
          clear hSb
          have z2 : ∀ sq : Cls (Bey W2), sq.w.rangeAt Sb 0 (edg p) := fun sq q v hv => cell_of ((sq.h.block Sb (Array.getElem?_eq_some_iff.mp hPP.out).1).trans hPP.out) (by rw [Nat.zero_add]; simpa using hv)
          have cC2 : ∀ sq : Cls (Bey W2), Calls Try.prog 61 #[.agg (edg p).toArray, .slice (some ⟨A, 0, none⟩) l.length l.length] sq.w fun e w' => e = .returned (.agg (edg q).toArray) ∧ Below sq.w.heap.size sq.w w' := fun sq => cC sq.w (hsP.out.later sq.h)
          have hneB := bey_some W2
          clear cC
          obtain ⟨v, hv⟩ : ∃ v, linOk s p = v := ⟨_, rfl⟩
          rw [hv] at heq hmore hbad
          clear hv
          simp only [Act.put, List.setIfInBounds_toArray, List.set_cons_zero, List.set_cons_succ]
          cases v
          · have hRf := hbad rfl
            clear hbad hmore
            simp only [Bool.not_false] at heq
            refine wp_region_cls (Bey W2) (by kernel_rfl) (by kernel_rfl) (bey_drew W2) ?_
            repeat (first
              | (go_big_quiet_want; (refine quiet_load_mid 94 _ rfl Sb 0 rfl (edg p) _ z2 huP.out rfl hiP.out ?_); (simp only [Act.put, List.setIfInBounds_toArray, List.set_cons_zero, List.set_cons_succ]); go_big_quiet_on)
              | go_big_quiet_step ((go_at_call 61; exact calls_bey (cC2 _))))
            refine wpQuiet_nil ?_
            intro _ hw'
            obtain ⟨sq, hw''⟩ := hw'
            subst hw''
            clear z2 cC2 hneB heq
            go_wp2
            go_ret2
            exact ⟨by rw [hRf.out]; rfl, bthen hsP.out.b sq.h⟩
          · have hmo := hmore rfl
            clear hbad hmore
            simp only [Bool.not_true] at heq
            refine wp_region_cls (Bey W2) (by kernel_rfl) (by kernel_rfl) (bey_drew W2) ?_
            repeat (first
              | (go_big_quiet_want; (refine quiet_load_mid 94 _ rfl Sb 0 rfl (edg p) _ z2 huP.out rfl hiP.out ?_); (simp only [Act.put, List.setIfInBounds_toArray, List.set_cons_zero, List.set_cons_succ]); go_big_quiet_on)
              | go_big_quiet_step ((go_at_call 61; exact calls_bey (cC2 _))))
            refine wpQuiet_nil ?_
            intro _ hw'
            obtain ⟨sq, hw''⟩ := hw'
            subst hw''
            clear z2 cC2 hneB heq
            go_wp2
            go_roundw
            case rel => exact ⟨k + 1, by omega, by go_num, ⟨hsP.out.later sq.h, hmo.out⟩⟩
            case measure => simp [intOf]; omega
        · have hk2 : k = E.length := by omega
          subst hk2
          have hRt : Hid (R = true) := by
            show _ = _
            rw [hR.out]
            unfold linB
            rw [List.all_eq_true]
            have := hs.out.2
            rwa [List.take_length] at this
          go_wp2
          go_ret2
          exact ⟨by rw [hRt.out]; rfl, hs.out.1.b⟩
end Go.Proofs.Ytkadlopcomjonaa.pg
