/- OrderHigh: what its loops reckon. -/
import Derived.Test.YtkadlopcomjonaaDoorM29
import Derived.Test.YtkadlopcomjonaaDoorM31
import Derived.Test.YtkadlopcomjonaaDoorM19
import Derived.BigQuiet
namespace Go.Proofs.YtkadlopcomjonaaDoor.pg
open Go.ChangeShapes Go.WideShapes Go.ChangeAt Go.RowKit Go.Shelf
set_option linter.unusedVariables false
set_option linter.unusedSimpArgs false
set_option maxRecDepth 100000
attribute [local go_sem ↓] Go.wp_at_zero Go.wp_at_succ
def vst (h : Nat → Int) (j : Nat) (v : Int) (p : Nat × Nat) : Int := if p.2 = j ∧ v < h p.1 + 2 then h p.1 + 2 else v
def vfold (h : Nat → Int) (j : Nat) (D : List (Nat × Nat)) : Int := D.foldl (vst h j) 1
theorem vfold_more (h : Nat → Int) (j : Nat) (D : List (Nat × Nat)) (p : Nat × Nat) : vfold h j (D ++ [p]) = vst h j (vfold h j D) p := by unfold vfold; rw [List.foldl_append]; rfl
theorem vfold_in (h : Nat → Int) (j : Nat) (X : Int) (hX : 1 ≤ X) : ∀ (n : Nat) (D : List (Nat × Nat)), D.length = n → (∀ p ∈ D, p.2 = j → h p.1 + 2 ≤ X) → 1 ≤ vfold h j D ∧ vfold h j D ≤ X ∧ ∀ p ∈ D, p.2 = j → h p.1 + 2 ≤ vfold h j D
  | 0, D, hn, _ => by
    have : D = [] := List.length_eq_zero_iff.mp hn
    subst this
    exact ⟨Int.le_refl _, hX, fun p hp => by simp at hp⟩
  | n + 1, D, hn, hD => by
    rcases List.eq_nil_or_concat D with rfl | ⟨q, x, rfl⟩
    · simp at hn
    · rw [List.concat_eq_append] at hn hD ⊢
      rw [List.length_append, List.length_singleton] at hn
      obtain ⟨i1, i2, i3⟩ := vfold_in h j X hX n q (by omega) fun p hp => hD p (List.mem_append_left _ hp)
      have hx := hD x (by simp)
      rw [vfold_more]
      generalize vfold h j q = v at *
      unfold vst
      split
      · rename_i c
        have := hx c.1
        refine ⟨by omega, this, fun p hp hpj => ?_⟩
        rw [List.mem_append, List.mem_singleton] at hp
        rcases hp with hp | rfl
        · have := i3 p hp hpj; omega
        · omega
      · rename_i c
        refine ⟨i1, i2, fun p hp hpj => ?_⟩
        rw [List.mem_append, List.mem_singleton] at hp
        rcases hp with hp | rfl
        · exact i3 p hp hpj
        · have : ¬ v < h p.1 + 2 := fun q => c ⟨hpj, q⟩
          omega
theorem vfold_is {n : Nat} {e : Nat → Nat → Bool} {h : Nat → Int} (hh : High n e h) {D : List (Nat × Nat)} (hD : ∀ p, p ∈ D ↔ p.1 < p.2 ∧ p.2 < n ∧ e p.1 p.2 = true) {j : Nat} (hj : j < n) : vfold h j D = h j + 1 := by
  have hp := hh.pos j hj
  obtain ⟨i1, i2, i3⟩ := vfold_in h j (h j + 1) (by omega) _ D rfl fun p hp hpj => by
    obtain ⟨q1, q2, q3⟩ := (hD p).mp hp
    subst hpj
    have := hh.up p.1 p.2 q1 q2 q3
    omega
  rcases hh.some j hj with q | ⟨i, q1, q2, q3⟩
  · omega
  · have := i3 (i, j) ((hD (i, j)).mpr ⟨q1, hj, q2⟩) rfl
    simp only at this
    omega
def mst (h : Nat → Int) : Nat → Int
  | 0 => 0
  | k + 1 => if mst h k < h k + 1 then h k + 1 else mst h k
theorem mst_in (h : Nat → Int) (n : Nat) (X : Int) (hX : 0 ≤ X) (hh : ∀ j, j < n → h j + 1 ≤ X) : ∀ k, k ≤ n → 0 ≤ mst h k ∧ mst h k ≤ X ∧ ∀ j, j < k → h j + 1 ≤ mst h k
  | 0, _ => ⟨Int.le_refl _, hX, fun j hj => by omega⟩
  | k + 1, hk => by
    obtain ⟨i1, i2, i3⟩ := mst_in h n X hX hh k (by omega)
    have hx := hh k (by omega)
    unfold mst
    split
    · refine ⟨by omega, hx, fun j hj => ?_⟩
      by_cases c : j = k
      · subst c; omega
      · have := i3 j (by omega); omega
    · refine ⟨i1, i2, fun j hj => ?_⟩
      by_cases c : j = k
      · subst c; omega
      · exact i3 j (by omega)
section
variable {l : List Ev} (hrt : ∀ x ∈ l, rightP x)
include hrt
/-- The height, as the law reckons it. -/
theorem mst_is : mst (fun j => (hfold l.length (rel (evf l) l.length).2).1.getD j 0) l.length = (hfold l.length (rel (evf l) l.length).2).2 := by
  obtain ⟨B, hB⟩ := tells_some (dpf l)
  have h := hi_rel hrt hB
  rcases h.hit with ⟨q1, q2⟩ | ⟨j, j1, j2⟩
  · rw [q2, q1]; rfl
  · have hp := h.pos j j1
    obtain ⟨_, i2, i3⟩ := mst_in (fun j => (hfold l.length (rel (evf l) l.length).2).1.getD j 0) l.length (hfold l.length (rel (evf l) l.length).2).2 (by omega) h.top l.length (Nat.le_refl _)
    have := i3 j j1
    omega
theorem hgt_le : 0 ≤ (hfold l.length (rel (evf l) l.length).2).2 ∧ (hfold l.length (rel (evf l) l.length).2).2 ≤ l.length ∧ (0 < l.length → 1 ≤ (hfold l.length (rel (evf l) l.length).2).2) := by
  obtain ⟨B, hB⟩ := tells_some (dpf l)
  have h := hi_rel hrt hB
  have hh := high_rel hrt hB
  have key : ∀ j, j < l.length → (hfold l.length (rel (evf l) l.length).2).1.getD j 0 ≤ (j : Int) := by
    intro j
    induction j using Nat.strongRecOn with
    | ind j ih =>
      intro hj
      rcases hh.some j hj with q | ⟨i, q1, q2, q3⟩
      · omega
      · have := ih i q1 (by omega)
        omega
  rcases h.hit with ⟨q1, q2⟩ | ⟨j, j1, j2⟩
  · rw [q2, q1]; omega
  · have := key j j1
    have hp := h.pos j j1
    omega
theorem own_le (g : Nat) : (cnt (fun k => gof l k == g) l.length : Int) ≤ (hfold l.length (rel (evf l) l.length).2).2 := by
  obtain ⟨B, hB⟩ := tells_some (dpf l)
  have h := hi_rel hrt hB
  exact ((high_rel hrt hB).own hB (ord_ok hrt) g _ (hgt_le hrt).1 h.top l.length (Nat.le_refl _)).1
theorem vfold_rel {D : List (Nat × Nat)} (hD : D.Perm (rel (evf l) l.length).2) {j : Nat} (hj : j < l.length) : vfold (fun j => (hfold l.length (rel (evf l) l.length).2).1.getD j 0) j D = (hfold l.length (rel (evf l) l.length).2).1.getD j 0 + 1 := by
  obtain ⟨B, hB⟩ := tells_some (dpf l)
  exact vfold_is (high_rel hrt hB) (fun p => by rw [hD.mem_iff]; exact edges_mem hrt hB p) hj
end
/-- How far the loops have come: what the law's two lists hold. -/
structure OhSt (We W : World) (A O : Nat) (hs os : List Int) : Prop where
  a : W.heap[A]? = some (objInts hs)
  o : W.heap[O]? = some (.cells (os.map fun v => Value.int .i64 v).toArray 78)
  b : Below We.heap.size We W
  ne : A ≠ O
  la : We.heap.size ≤ A
  lo : We.heap.size ≤ O
theorem OhSt.later {We W W' : World} {A O : Nat} {hs os : List Int} (h : OhSt We W A O hs os) (hb : Below W.heap.size W W') : OhSt We W' A O hs os :=
  ⟨(hb.block _ (Array.getElem?_eq_some_iff.mp h.a).1).trans h.a, (hb.block _ (Array.getElem?_eq_some_iff.mp h.o).1).trans h.o, bthen h.b hb, h.ne, h.la, h.lo⟩
theorem OhSt.setA {We W : World} {A O : Nat} {hs os : List Int} (h : OhSt We W A O hs os) (j : Nat) (v : Int) : OhSt We (W.setCell ⟨A, j, none⟩ (.int .i64 v)) A O (hs.set j v) os := by
  rw [setCell_eq_setRow W A j _ _ _ _ h.a]
  refine ⟨?_, (setRow_other _ _ _ _ (Ne.symm h.ne)).trans h.o, below_setRow h.b h.la _, h.ne, h.la, h.lo⟩
  rw [setRow_heap W A _ _ _ _ h.a]
  simp [List.map_set]
theorem OhSt.setO {We W : World} {A O : Nat} {hs os : List Int} (h : OhSt We W A O hs os) (j : Nat) (v : Int) : OhSt We (W.setCell ⟨O, j, none⟩ (.int .i64 v)) A O hs (os.set j v) := by
  rw [setCell_eq_setRow W O j _ _ _ _ h.o]
  refine ⟨(setRow_other _ _ _ _ h.ne).trans h.a, ?_, below_setRow h.b h.lo _, h.ne, h.la, h.lo⟩
  rw [setRow_heap W O _ _ _ _ h.o]
  simp [List.map_set]
theorem OhSt.cellA {We W : World} {A O : Nat} {hs os : List Int} (h : OhSt We W A O hs os) {j : Nat} (hj : j < hs.length) : W.cell? ⟨A, j, none⟩ = some (.int .i64 (hs.getD j 0)) ∧ W.frozen? ⟨A, j, none⟩ = false := by
  refine ⟨cell_of h.a ?_, frozen_of_row _ _ _ _ _ h.a⟩
  rw [List.getD_eq_getElem?_getD, List.getElem?_eq_getElem hj]
  simp [hj]
theorem OhSt.cellO {We W : World} {A O : Nat} {hs os : List Int} (h : OhSt We W A O hs os) {j : Nat} (hj : j < os.length) : W.cell? ⟨O, j, none⟩ = some (.int .i64 (os.getD j 0)) ∧ W.frozen? ⟨O, j, none⟩ = false := by
  refine ⟨cell_of h.o ?_, frozen_of_row _ _ _ _ _ h.o⟩
  rw [List.getD_eq_getElem?_getD, List.getElem?_eq_getElem hj]
  simp [hj]
theorem ix_sixN (O g : Nat) (h : g < 6) : ∀ wx, (Instr.indexAt 78 (.pointer (some ⟨O, 0, none⟩)) (.int .i64 (g : Int))).run Tryd.prog wx = .ok (.pointer (some ⟨O, g, none⟩)) wx := by
  match g, h with
  | 0, _ => exact fun _ => by kernel_rfl
  | 1, _ => exact fun _ => by kernel_rfl
  | 2, _ => exact fun _ => by kernel_rfl
  | 3, _ => exact fun _ => by kernel_rfl
  | 4, _ => exact fun _ => by kernel_rfl
  | 5, _ => exact fun _ => by kernel_rfl
theorem ix_pair (b o : Nat) (k : Nat) (h : k < 2) : ∀ wx, (Instr.indexAt 122 (.pointer (some ⟨b, o, none⟩)) (.int .i64 (k : Int))).run Tryd.prog wx = .ok (.pointer (some ⟨b, o + k, none⟩)) wx := by
  intro wx
  have u := Tryd.underlying122
  have z := Tryd.sizeOf3
  match k, h with
  | 0, _ => simp [Instr.indexAt, run_underlying u, asIntOf, go_sem, z]
  | 1, _ => simp [Instr.indexAt, run_underlying u, asIntOf, go_sem, z]
/-- What high holds, as far as it is reckoned. -/
def hghTo (h : Nat → Int) (n j : Nat) : List Int := (List.range n).map fun i => if i < j then h i + 1 else 0
theorem hghTo_len (h : Nat → Int) (n j : Nat) : (hghTo h n j).length = n := by simp [hghTo]
theorem hghTo_get {h : Nat → Int} {n j i : Nat} (hi : i < n) : (hghTo h n j).getD i 0 = if i < j then h i + 1 else 0 := by
  simp [hghTo, List.getD_eq_getElem?_getD, hi]
theorem hghTo_more {h : Nat → Int} {n j : Nat} {v : Int} (hj : j < n) (hv : v = h j + 1) : (hghTo h n j).set j v = hghTo h n (j + 1) := by
  subst hv
  apply List.ext_getElem?
  intro q
  simp only [hghTo, List.getElem?_set, List.length_map, List.length_range, List.getElem?_map]
  by_cases c : j = q
  · subst c; simp [hj]
  · rw [if_neg c]
    by_cases d : q < n
    · simp only [List.getElem?_range d, Option.map_some]
      by_cases e : q < j
      · rw [if_pos e, if_pos (by omega)]
      · rw [if_neg e, if_neg (by omega)]
    · simp [List.getElem?_range, d]
theorem hghTo_zero (h : Nat → Int) (n : Nat) : (some (Obj.cells (List.replicate n (Value.int .i64 0)).toArray 3 (0, 0)) : Option Obj) = some (objInts (hghTo h n 0)) := by
  congr 2
  apply Array.ext'
  simp only [List.toList_toArray]
  apply List.ext_getElem?
  intro k
  by_cases c : k < n
  · simp [hghTo, c, List.getElem?_replicate, List.getElem?_range]
  · simp [hghTo, c, List.getElem?_replicate, List.getElem?_range]
/-- What own holds. -/
def ownTo (g : Nat → Nat) (j : Nat) : List Int := (List.range 6).map fun a => ((cnt (fun k => g k == a) j : Nat) : Int)
theorem ownTo_get {g : Nat → Nat} {j a : Nat} (ha : a < 6) : (ownTo g j).getD a 0 = (cnt (fun k => g k == a) j : Int) := by
  simp [ownTo, List.getD_eq_getElem?_getD, ha]
theorem ownTo_more {g : Nat → Nat} {j : Nat} (hg : g j < 6) : (ownTo g j).set (g j) ((cnt (fun k => g k == g j) j : Int) + 1) = ownTo g (j + 1) := by
  apply List.ext_getElem?
  intro q
  simp only [ownTo, List.getElem?_set, List.length_map, List.length_range, List.getElem?_map]
  by_cases c : g j = q
  · subst c
    simp [hg, cnt]
  · rw [if_neg c]
    by_cases d : q < 6
    · simp only [List.getElem?_range d, Option.map_some]
      have : (g j == q) = false := by simpa using c
      simp [cnt, this]
    · simp [List.getElem?_range, d]
end Go.Proofs.YtkadlopcomjonaaDoor.pg
/- placed and Linear of package order. -/
namespace Go.Proofs.YtkadlopcomjonaaDoor.pg
open Go.ChangeShapes Go.WideShapes Go.ChangeAt Go.RowKit Go.Shelf
set_option linter.unusedVariables false
set_option linter.unusedSimpArgs false
set_option maxRecDepth 100000
attribute [local go_sem ↓] Go.wp_at_zero Go.wp_at_succ
theorem infoP2s : (Tryd.prog.info? 122).map (·.size) = some 2 := by kernel_rfl
end Go.Proofs.YtkadlopcomjonaaDoor.pg
/- Linear of package order. -/
namespace Go.Proofs.YtkadlopcomjonaaDoor.pg
open Go.ChangeShapes Go.WideShapes Go.ChangeAt Go.RowKit Go.Shelf
set_option linter.unusedVariables false
set_option linter.unusedSimpArgs false
set_option maxRecDepth 100000
attribute [local go_sem ↓] Go.wp_at_zero Go.wp_at_succ
/-- Where each is, as far as the list is read. -/
def atS (n : Nat) (ps : List Int) : Nat → List Int
  | 0 => List.replicate n 0
  | k + 1 => (atS n ps k).set (ps.getD k 0).toNat (k : Int)
theorem atS_len (n : Nat) (ps : List Int) : ∀ k, (atS n ps k).length = n
  | 0 => by simp [atS]
  | k + 1 => by rw [atS, List.length_set]; exact atS_len n ps k
theorem atS_more {n : Nat} {ps : List Int} {k a : Nat} (h : ps[k]? = some (a : Int)) : (atS n ps k).set a (k : Int) = atS n ps (k + 1) := by
  rw [atS, List.getD_eq_getElem?_getD, h]; rfl
def linOk (s : List Int) (p : Nat × Nat) : Bool := !decide (s.getD p.2 0 < s.getD p.1 0)
def linB (E : List (Nat × Nat)) (s : List Int) : Bool := E.all (linOk s)
def eqP (p q : Nat × Nat) : Bool := p.1 == q.1 && p.2 == q.2
theorem swp_is (s : List Int) (p : Nat × Nat) (h : p.1 < p.2) : eqP (if s.getD p.2 0 < s.getD p.1 0 then (p.2, p.1) else (p.1, p.2)) p = linOk s p := by
  unfold linOk eqP
  generalize s.getD p.2 0 = x
  generalize s.getD p.1 0 = y
  by_cases c : x < y
  · have : ¬ p.2 = p.1 := by omega
    simp [c, this]
  · simp [c]
theorem run_inP (p q : Nat × Nat) (w : World) : (Op.equalIn 10000 122 (.agg (edg p).toArray) (.agg (edg q).toArray)).run Tryd.prog w = .ok (eqP p q) w := by
  obtain ⟨i, hi⟩ := infoI_some
  have hc1 : Tryd.prog.cellsOf 3 = 1 := by kernel_rfl
  have u1 := Tryd.underlying3
  have a1 := Tryd.isAgg3
  have z1 := Tryd.sizeOf3
  obtain ⟨p1, p2⟩ := p
  obtain ⟨q1, q2⟩ := q
  rw [show (10000 : Nat) = 9999 + 1 from rfl, run_equalIn_array w 9999 _ _ Tryd.underlying122 hi, hc1]
  simp only [List.range, List.range.loop, Op.eqItems, edg]
  go_simp
  by_cases h0 : p1 = q1
  · subst h0
    by_cases h1 : p2 = q2
    · subst h1; simp [eqP]
    · have : ¬ ((p2 : Int) = (q2 : Int)) := by omega
      simp [eqP, h1, this]
  · have : ¬ ((p1 : Int) = (q1 : Int)) := by omega
    simp [eqP, h0, this]
theorem run_neP (p q : Nat × Nat) (w : World) : (binOp .neq 122 (.agg (edg p).toArray) (.agg (edg q).toArray)).run Tryd.prog w = .ok (.bool (!eqP p q)) w := by
  rw [run_neq_struct, run_inP]; rfl
end Go.Proofs.YtkadlopcomjonaaDoor.pg
