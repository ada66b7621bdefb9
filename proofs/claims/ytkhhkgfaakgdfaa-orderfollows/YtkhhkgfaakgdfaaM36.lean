/- OrderHigh: what its loops reckon. -/
import Derived.Test.YtkhhkgfaakgdfaaM27
import Derived.Test.YtkhhkgfaakgdfaaM33
import Derived.Test.YtkhhkgfaakgdfaaM26
import Derived.Test.YtkhhkgfaakgdfaaM31
import Derived.Test.YtkhhkgfaakgdfaaM34
import Derived.Test.YtkhhkgfaakgdfaaM35
namespace Go.Proofs.Ytkhhkgfaakgdfaa.pg
open Go.ChangeShapes Go.WideShapes Go.ChangeAt Go.RowKit Go.Shelf
set_option linter.unusedVariables false
set_option linter.unusedSimpArgs false
set_option maxRecDepth 100000
attribute [local go_sem ↓] Go.wp_at_zero Go.wp_at_succ
def vst (h : Nat → Int) (j : Nat) (v : Int) (p : Nat × Nat) : Int := if p.2 = j ∧ v < h p.1 + 2 then h p.1 + 2 else v
def vfold (h : Nat → Int) (j : Nat) (D : List (Nat × Nat)) : Int := D.foldl (vst h j) 1
theorem vfold_more (h : Nat → Int) (j : Nat) (D : List (Nat × Nat)) (p : Nat × Nat) : vfold h j (D ++ [p]) = vst h j (vfold h j D) p := by unfold vfold; rw [List.foldl_append]; rfl
theorem vfold_in (h : Nat → Int) (j : Nat) (X : Int) (hX : 1 ≤ X) : ∀ (n : Nat) (D : List (Nat × Nat)), D.length = n → (∀ p ∈ D, p.2 = j → h p.1 + 2 ≤ X) → 1 ≤ vfold h j D ∧ vfold h j D ≤ X ∧ ∀ p ∈ D, p.2 = j → h p.1 + 2 ≤ vfold h j D
  | 0, D, hn, _ => by
    have : D = [] := List.length_eq_zero_iff.mp hn
    subst this
    exact ⟨Int.le_refl _, hX, fun p hp => by simp at hp⟩
  | n + 1, D, hn, hD => by
    rcases List.eq_nil_or_concat D with rfl | ⟨q, x, rfl⟩
    · simp at hn
    · rw [List.concat_eq_append] at hn hD ⊢
      rw [List.length_append, List.length_singleton] at hn
      obtain ⟨i1, i2, i3⟩ := vfold_in h j X hX n q (by omega) fun p hp => hD p (List.mem_append_left _ hp)
      have hx := hD x (by simp)
      rw [vfold_more]
      generalize vfold h j q = v at *
      unfold vst
      split
      · rename_i c
        have := hx c.1
        refine ⟨by omega, this, fun p hp hpj => ?_⟩
        rw [List.mem_append, List.mem_singleton] at hp
        rcases hp with hp | rfl
        · have := i3 p hp hpj; omega
        · omega
      · rename_i c
        refine ⟨i1, i2, fun p hp hpj => ?_⟩
        rw [List.mem_append, List.mem_singleton] at hp
        rcases hp with hp | rfl
        · exact i3 p hp hpj
        · have : ¬ v < h p.1 + 2 := fun q => c ⟨hpj, q⟩
          omega
theorem vfold_is {n : Nat} {e : Nat → Nat → Bool} {h : Nat → Int} (hh : High n e h) {D : List (Nat × Nat)} (hD : ∀ p, p ∈ D ↔ p.1 < p.2 ∧ p.2 < n ∧ e p.1 p.2 = true) {j : Nat} (hj : j < n) : vfold h j D = h j + 1 := by
  have hp := hh.pos j hj
  obtain ⟨i1, i2, i3⟩ := vfold_in h j (h j + 1) (by omega) _ D rfl fun p hp hpj => by
    obtain ⟨q1, q2, q3⟩ := (hD p).mp hp
    subst hpj
    have := hh.up p.1 p.2 q1 q2 q3
    omega
  rcases hh.some j hj with q | ⟨i, q1, q2, q3⟩
  · omega
  · have := i3 (i, j) ((hD (i, j)).mpr ⟨q1, hj, q2⟩) rfl
    simp only at this
    omega
def mst (h : Nat → Int) : Nat → Int
  | 0 => 0
  | k + 1 => if mst h k < h k + 1 then h k + 1 else mst h k
theorem mst_in (h : Nat → Int) (n : Nat) (X : Int) (hX : 0 ≤ X) (hh : ∀ j, j < n → h j + 1 ≤ X) : ∀ k, k ≤ n → 0 ≤ mst h k ∧ mst h k ≤ X ∧ ∀ j, j < k → h j + 1 ≤ mst h k
  | 0, _ => ⟨Int.le_refl _, hX, fun j hj => by omega⟩
  | k + 1, hk => by
    obtain ⟨i1, i2, i3⟩ := mst_in h n X hX hh k (by omega)
    have hx := hh k (by omega)
    unfold mst
    split
    · refine ⟨by omega, hx, fun j hj => ?_⟩
      by_cases c : j = k
      · subst c; omega
      · have := i3 j (by omega); omega
    · refine ⟨i1, i2, fun j hj => ?_⟩
      by_cases c : j = k
      · subst c; omega
      · exact i3 j (by omega)
section
variable {l : List Ev} (hrt : ∀ x ∈ l, rightP x)
include hrt
/-- The height, as the law reckons it. -/
theorem mst_is : mst (fun j => (hfold l.length (rel (evf l) l.length).2).1.getD j 0) l.length = (hfold l.length (rel (evf l) l.length).2).2 := by
  obtain ⟨B, hB⟩ := tells_some (dpf l)
  have h := hi_rel hrt hB
  rcases h.hit with ⟨q1, q2⟩ | ⟨j, j1, j2⟩
  · rw [q2, q1]; rfl
  · have hp := h.pos j j1
    obtain ⟨_, i2, i3⟩ := mst_in (fun j => (hfold l.length (rel (evf l) l.length).2).1.getD j 0) l.length (hfold l.length (rel (evf l) l.length).2).2 (by omega) h.top l.length (Nat.le_refl _)
    have := i3 j j1
    omega
theorem hgt_le : 0 ≤ (hfold l.length (rel (evf l) l.length).2).2 ∧ (hfold l.length (rel (evf l) l.length).2).2 ≤ l.length ∧ (0 < l.length → 1 ≤ (hfold l.length (rel (evf l) l.length).2).2) := by
  obtain ⟨B, hB⟩ := tells_some (dpf l)
  have h := hi_rel hrt hB
  have hh := high_rel hrt hB
  have key : ∀ j, j < l.length → (hfold l.length (rel (evf l) l.length).2).1.getD j 0 ≤ (j : Int) := by
    intro j
    induction j using Nat.strongRecOn with
    | ind j ih =>
      intro hj
      rcases hh.some j hj with q | ⟨i, q1, q2, q3⟩
      · omega
      · have := ih i q1 (by omega)
        omega
  rcases h.hit with ⟨q1, q2⟩ | ⟨j, j1, j2⟩
  · rw [q2, q1]; omega
  · have := key j j1
    have hp := h.pos j j1
    omega
theorem own_le (g : Nat) : (cnt (fun k => gof l k == g) l.length : Int) ≤ (hfold l.length (rel (evf l) l.length).2).2 := by
  obtain ⟨B, hB⟩ := tells_some (dpf l)
  have h := hi_rel hrt hB
  exact ((high_rel hrt hB).own hB (ord_ok hrt) g _ (hgt_le hrt).1 h.top l.length (Nat.le_refl _)).1
theorem vfold_rel {D : List (Nat × Nat)} (hD : D.Perm (rel (evf l) l.length).2) {j : Nat} (hj : j < l.length) : vfold (fun j => (hfold l.length (rel (evf l) l.length).2).1.getD j 0) j D = (hfold l.length (rel (evf l) l.length).2).1.getD j 0 + 1 := by
  obtain ⟨B, hB⟩ := tells_some (dpf l)
  exact vfold_is (high_rel hrt hB) (fun p => by rw [hD.mem_iff]; exact edges_mem hrt hB p) hj
end
set_option maxHeartbeats 1000000 in
theorem height_bad (l : List Ev) (la : Option Addr) (lc : Nat) (w : World) (hl : Rows w 26 la lc (l.map Ev.cells)) (c : Int) (hc : checkP l c) (h0 : c = 2 ∨ c = 7) :
    Calls Try.prog 14 #[.slice la l.length lc] w fun e w' => e = .returned (.tuple #[.int .i64 0, .int .i64 c]) ∧ Below w.heap.size w w' := by
  have c1 := look_bad l la lc (.slice none 0 0) w hl c hc h0
  have hlI := rows_len hl
  clear hl hc
  rcases h0 with rfl | rfl
  all_goals
    go_enter Try.func14, Try.ntmps14
    go_wp2_with (first
      | (go_at_call 42; (with_reducible refine c1.mono ?_); rintro e w1 ⟨rfl, hb'⟩; (have hb : Hid (Below w.heap.size w w1) := hb'); clear hb' c1)
      | (refine wpList_store_new rfl 78 _ _ rfl rfl _ _ rfl (by kernel_rfl) rfl (one3 _ _ _ _ _ _ _ _ _) ?_))
    go_ret2
    exact ⟨rfl, bthen hb.out (boxed _ _)⟩
/-- How far the loops have come: what the law's two lists hold. -/
structure OhSt (We W : World) (A O : Nat) (hs os : List Int) : Prop where
  a : W.heap[A]? = some (objInts hs)
  o : W.heap[O]? = some (.cells (os.map fun v => Value.int .i64 v).toArray 39)
  b : Below We.heap.size We W
  ne : A ≠ O
  la : We.heap.size ≤ A
  lo : We.heap.size ≤ O
theorem OhSt.later {We W W' : World} {A O : Nat} {hs os : List Int} (h : OhSt We W A O hs os) (hb : Below W.heap.size W W') : OhSt We W' A O hs os :=
  ⟨(hb.block _ (Array.getElem?_eq_some_iff.mp h.a).1).trans h.a, (hb.block _ (Array.getElem?_eq_some_iff.mp h.o).1).trans h.o, bthen h.b hb, h.ne, h.la, h.lo⟩
theorem OhSt.setA {We W : World} {A O : Nat} {hs os : List Int} (h : OhSt We W A O hs os) (j : Nat) (v : Int) : OhSt We (W.setCell ⟨A, j, none⟩ (.int .i64 v)) A O (hs.set j v) os := by
  rw [setCell_eq_setRow W A j _ _ _ _ h.a]
  refine ⟨?_, (setRow_other _ _ _ _ (Ne.symm h.ne)).trans h.o, below_setRow h.b h.la _, h.ne, h.la, h.lo⟩
  rw [setRow_heap W A _ _ _ _ h.a]
  simp [List.map_set]
theorem OhSt.setO {We W : World} {A O : Nat} {hs os : List Int} (h : OhSt We W A O hs os) (j : Nat) (v : Int) : OhSt We (W.setCell ⟨O, j, none⟩ (.int .i64 v)) A O hs (os.set j v) := by
  rw [setCell_eq_setRow W O j _ _ _ _ h.o]
  refine ⟨(setRow_other _ _ _ _ h.ne).trans h.a, ?_, below_setRow h.b h.lo _, h.ne, h.la, h.lo⟩
  rw [setRow_heap W O _ _ _ _ h.o]
  simp [List.map_set]
theorem OhSt.cellA {We W : World} {A O : Nat} {hs os : List Int} (h : OhSt We W A O hs os) {j : Nat} (hj : j < hs.length) : W.cell? ⟨A, j, none⟩ = some (.int .i64 (hs.getD j 0)) ∧ W.frozen? ⟨A, j, none⟩ = false := by
  refine ⟨cell_of h.a ?_, frozen_of_row _ _ _ _ _ h.a⟩
  rw [List.getD_eq_getElem?_getD, List.getElem?_eq_getElem hj]
  simp [hj]
theorem OhSt.cellO {We W : World} {A O : Nat} {hs os : List Int} (h : OhSt We W A O hs os) {j : Nat} (hj : j < os.length) : W.cell? ⟨O, j, none⟩ = some (.int .i64 (os.getD j 0)) ∧ W.frozen? ⟨O, j, none⟩ = false := by
  refine ⟨cell_of h.o ?_, frozen_of_row _ _ _ _ _ h.o⟩
  rw [List.getD_eq_getElem?_getD, List.getElem?_eq_getElem hj]
  simp [hj]
theorem ix_six (O g : Nat) (h : g < 6) : ∀ wx, (Instr.indexAt 39 (.pointer (some ⟨O, 0, none⟩)) (.int .i64 (g : Int))).run Try.prog wx = .ok (.pointer (some ⟨O, g, none⟩)) wx := by
  match g, h with
  | 0, _ => exact fun _ => by kernel_rfl
  | 1, _ => exact fun _ => by kernel_rfl
  | 2, _ => exact fun _ => by kernel_rfl
  | 3, _ => exact fun _ => by kernel_rfl
  | 4, _ => exact fun _ => by kernel_rfl
  | 5, _ => exact fun _ => by kernel_rfl
theorem ix_pair (b o : Nat) (k : Nat) (h : k < 2) : ∀ wx, (Instr.indexAt 41 (.pointer (some ⟨b, o, none⟩)) (.int .i64 (k : Int))).run Try.prog wx = .ok (.pointer (some ⟨b, o + k, none⟩)) wx := by
  intro wx
  have u := Try.underlying41
  have z := Try.sizeOf3
  match k, h with
  | 0, _ => simp [Instr.indexAt, run_underlying u, asIntOf, go_sem, z]
  | 1, _ => simp [Instr.indexAt, run_underlying u, asIntOf, go_sem, z]
/-- What high holds, as far as it is reckoned. -/
def hghTo (h : Nat → Int) (n j : Nat) : List Int := (List.range n).map fun i => if i < j then h i + 1 else 0
theorem hghTo_len (h : Nat → Int) (n j : Nat) : (hghTo h n j).length = n := by simp [hghTo]
theorem hghTo_get {h : Nat → Int} {n j i : Nat} (hi : i < n) : (hghTo h n j).getD i 0 = if i < j then h i + 1 else 0 := by
  simp [hghTo, List.getD_eq_getElem?_getD, hi]
theorem hghTo_more {h : Nat → Int} {n j : Nat} {v : Int} (hj : j < n) (hv : v = h j + 1) : (hghTo h n j).set j v = hghTo h n (j + 1) := by
  subst hv
  apply List.ext_getElem?
  intro q
  simp only [hghTo, List.getElem?_set, List.length_map, List.length_range, List.getElem?_map]
  by_cases c : j = q
  · subst c; simp [hj]
  · rw [if_neg c]
    by_cases d : q < n
    · simp only [List.getElem?_range d, Option.map_some]
      by_cases e : q < j
      · rw [if_pos e, if_pos (by omega)]
      · rw [if_neg e, if_neg (by omega)]
    · simp [List.getElem?_range, d]
theorem hghTo_zero (h : Nat → Int) (n : Nat) : (some (Obj.cells (List.replicate n (Value.int .i64 0)).toArray 3 (0, 0)) : Option Obj) = some (objInts (hghTo h n 0)) := by
  congr 2
  apply Array.ext'
  simp only [List.toList_toArray]
  apply List.ext_getElem?
  intro k
  by_cases c : k < n
  · simp [hghTo, c, List.getElem?_replicate, List.getElem?_range]
  · simp [hghTo, c, List.getElem?_replicate, List.getElem?_range]
/-- What own holds. -/
def ownTo (g : Nat → Nat) (j : Nat) : List Int := (List.range 6).map fun a => ((cnt (fun k => g k == a) j : Nat) : Int)
theorem ownTo_get {g : Nat → Nat} {j a : Nat} (ha : a < 6) : (ownTo g j).getD a 0 = (cnt (fun k => g k == a) j : Int) := by
  simp [ownTo, List.getD_eq_getElem?_getD, ha]
theorem ownTo_more {g : Nat → Nat} {j : Nat} (hg : g j < 6) : (ownTo g j).set (g j) ((cnt (fun k => g k == g j) j : Int) + 1) = ownTo g (j + 1) := by
  apply List.ext_getElem?
  intro q
  simp only [ownTo, List.getElem?_set, List.length_map, List.length_range, List.getElem?_map]
  by_cases c : g j = q
  · subst c
    simp [hg, cnt]
  · rw [if_neg c]
    by_cases d : q < 6
    · simp only [List.getElem?_range d, Option.map_some]
      have : (g j == q) = false := by simpa using c
      simp [cnt, this]
    · simp [List.getElem?_range, d]
end Go.Proofs.Ytkhhkgfaakgdfaa.pg
/- OrderFollows. -/
namespace Go.Proofs.Ytkhhkgfaakgdfaa.pg
open Go.ChangeShapes Go.WideShapes Go.ChangeAt Go.RowKit Go.Shelf
set_option linter.unusedVariables false
set_option linter.unusedSimpArgs false
set_option maxRecDepth 100000
attribute [local go_sem ↓] Go.wp_at_zero Go.wp_at_succ
set_option maxHeartbeats 1000000 in
theorem edges_bad (l : List Ev) (la : Option Addr) (lc : Nat) (w : World) (hl : Rows w 26 la lc (l.map Ev.cells)) (c : Int) (hc : checkP l c) (h0 : c = 2 ∨ c = 7) :
    Calls Try.prog 12 #[.slice la l.length lc] w fun e w' => e = .returned (.tuple #[.slice none 0 0, .int .i64 c]) ∧ Below w.heap.size w w' := by
  have c1 := look_bad l la lc (.slice none 0 0) w hl c hc h0
  have c2 : ∀ wx, Calls Try.prog 43 #[.slice none 0 0, .func (.func 44) #[] #[]] wx fun e w' => (∃ v, e = .returned v) ∧ w' = wx := fun wx => sort_nil wx
  have hx : ∀ w1 : World, (w1.alloc (.cells #[.slice none 0 0, .slice none 0 0, .slice none 0 0] 78)).cell? ⟨w1.heap.size, 2, none⟩ = some (.slice none 0 0) := fun w1 => cell_of (heap_alloc_new _ _) rfl
  clear hl hc h0
  go_enter Try.func12, Try.ntmps12
  go_wp2_with (first
    | (go_at_call 42; (with_reducible refine c1.mono ?_); rintro e w1 ⟨rfl, hb'⟩; (have hb : Hid (Below w.heap.size w w1) := hb'); (have hx1 := hx w1); clear hb' c1)
    | (refine wpList_store_new rfl 78 _ _ rfl rfl _ _ rfl (by kernel_rfl) rfl (one3 _ _ _ _ _ _ _ _ _) ?_)
    | (go_at_call 43; (with_reducible refine (c2 _).mono ?_); rintro e w2 ⟨⟨v, rfl⟩, rfl⟩))
  go_ret2
  exact ⟨rfl, bthen hb.out (boxed _ _)⟩
set_option maxHeartbeats 2000000 in
theorem follows_out (l : List Ev) (la : Option Addr) (lc : Nat) (w : World) (hl : Rows w 26 la lc (l.map Ev.cells)) (h : 60 < l.length ∨ ∃ c, checkP l c ∧ (c = 2 ∨ c = 7)) : Calls Try.prog 6 #[.slice la l.length lc] w fun e w' => e = .returned (.bool true) ∧ Below w.heap.size w w' := by
  have hlI := rows_len hl
  have hlH : Hid (Rows w 26 la lc (l.map Ev.cells)) := hl
  have cS : ∀ wx, Calls Try.prog 16 #[] wx fun e w' => e = .returned (.bool true) ∧ Below wx.heap.size wx w' := fun wx => speaks12_any wx
  by_cases h60 : 60 < l.length
  · have h60I : (60 : Int) < l.length := by omega
    clear hl h
    go_enter Try.func6, Try.ntmps6
    go_wp2_with (go_at_call 16; (with_reducible refine (cS _).mono ?_); rintro e w6 ⟨rfl, hb6⟩; (have hB6 : Hid (Below w.heap.size w w6) := hb6))
    go_ret
    exact ⟨rfl, hB6.out⟩
  · have h60I : ¬ (60 : Int) < l.length := by omega
    obtain ⟨c, hc, h7⟩ := h.resolve_left h60
    have cK : ∀ wx, Below w.heap.size w wx → Calls Try.prog 15 #[.slice la l.length lc] wx fun e w' => e = .returned (.int .i64 c) ∧ Below wx.heap.size wx w' := fun wx hb => rcheck_any l la lc wx (hlH.out.later hb) c hc
    have cC := edges_bad l la lc w hl c hc h7
    clear hl hc h
    rcases h7 with rfl | rfl
    all_goals
      go_enter Try.func6, Try.ntmps6
      go_wp2_with (first
        | (go_at_call 12; (with_reducible refine cC.mono ?_); rintro e w1 ⟨rfl, hb1⟩; (have hB : Hid (Below w.heap.size w w1) := hb1); clear hb1 cC)
        | (go_at_call 15; (with_reducible refine (cK _ hB.out).mono ?_); rintro e w2 ⟨rfl, hb2⟩; (have hB : Hid (Below w.heap.size w w2) := bthen hB.out hb2); clear hb2)
        | (go_at_call 16; (with_reducible refine (cS _).mono ?_); rintro e w4 ⟨rfl, hb4⟩; (have hB4 : Hid (Below w.heap.size w w4) := bthen hB.out hb4)))
      go_ret
      exact ⟨rfl, hB4.out⟩
set_option maxHeartbeats 4000000 in
theorem follows_in (l : List Ev) (la : Option Addr) (lc : Nat) (w : World) (hl : Rows w 26 la lc (l.map Ev.cells)) (hlen : l.length ≤ 60) (hrt : ∀ x ∈ l, rightP x) : Calls Try.prog 6 #[.slice la l.length lc] w fun e w' => e = .returned (.bool true) ∧ Below w.heap.size w w' := by
  have hlI : (l.length : Int) ≤ 60 := by omega
  have h60I : ¬ (60 : Int) < l.length := by omega
  have hl256 : l.length ≤ 256 := by omega
  have hlH : Hid (Rows w 26 la lc (l.map Ev.cells)) := hl
  have hrtH : Hid (∀ x ∈ l, rightP x) := hrt
  obtain ⟨B, hB⟩ := tells_some (dpf l)
  have hBH : Hid (Tells (dpf l) B) := hB
  have cS : ∀ wx, Calls Try.prog 16 #[] wx fun e w' => e = .returned (.bool true) ∧ Below wx.heap.size wx w' := fun wx => speaks12_any wx
  have cK : ∀ wx, Below w.heap.size w wx → Calls Try.prog 15 #[.slice la l.length lc] wx fun e w' => e = .returned (.int .i64 0) ∧ Below wx.heap.size wx w' := fun wx hb => rcheck_any l la lc wx (hlH.out.later hb) 0 (.inr (.inr ⟨hl256, hrtH.out, rfl⟩))
  have cE := edges_ok l la lc w hl hl256 hrt
  have cB : ∀ (i j : Nat) wx, i < l.length → j < l.length → Below w.heap.size w wx → Calls Try.prog 22 #[.slice la l.length lc, .int .i64 (i : Int), .int .i64 (j : Int)] wx fun e w' => e = .returned (.tuple #[.bool (B i j), .int .i64 0]) ∧ Below wx.heap.size wx w' := fun i j wx hi hj hb => before_ok l la lc i j wx (hlH.out.later hb) hl256 hrtH.out hi hj _ (by show _ = _; rw [bef_is hrtH.out hBH.out hi hj])
  have hEm : Hid (∀ p, p ∈ (rel (evf l) l.length).2 ↔ p.1 < p.2 ∧ p.2 < l.length ∧ edgeB (dpf l) B p.1 p.2 = true) := fun p => edges_mem hrt hB p
  have hEl : Hid ((rel (evf l) l.length).2.length ≤ 65536) := by show _ ≤ _; have := rel_edges (evf l) l.length hl256; omega
  have hord : Hid (Ord (dpf l) (gof l) l.length) := ord_ok hrt
  obtain ⟨iB, hiB, hzB, hsB, hbB⟩ := info_q infoBl
  obtain ⟨iS, hiS, hzS, hsS, hbS⟩ := info_q infoSb
  have iBH : Hid (Try.prog.info? 4 = some iB ∧ iB.zero = some (.bool false) ∧ iB.size = 1 ∧ iB.bytes * l.length ≤ 281474976710656) := ⟨hiB, hzB, hsB, by rw [hbB]; omega⟩
  have iSH : Hid (Try.prog.info? 52 = some iS ∧ iS.zero = some (.slice none 0 0) ∧ iS.size = 1 ∧ iS.bytes * l.length ≤ 281474976710656) := ⟨hiS, hzS, hsS, by rw [hbS]; omega⟩
  clear hl hrt hB hiB hzB hsB hbB hiS hzS hsS hbS
  go_enter Try.func6, Try.ntmps6
  go_wp2_with (first
    | (go_at_call 12; (with_reducible refine cE.mono ?_); rintro e w1 ⟨da, dc, D, rfl, q1, q2, q3, q4⟩; (have hB1 : Hid (Below w.heap.size w w1) := q4); (have hD : Hid (D.Perm (rel (evf l) l.length).2 ∧ D.Pairwise lex ∧ Rows w1 2 da dc (D.map edg)) := ⟨q1, q2, q3⟩); clear q1 q2 q3 q4 cE)
    | (go_at_call 15; (with_reducible refine (cK _ hB1.out).mono ?_); rintro e w2 ⟨rfl, hb2⟩; (have hB2 : Hid (Below w.heap.size w w2) := bthen hB1.out hb2); (have hD2 : Hid (Rows w2 2 da dc (D.map edg)) := hD.out.2.2.later hb2); clear hb2 cK hB1)
    | (refine wpList_mk _ rfl _ _ 49 rfl 52 iS (.slice none 0 0) Try.underlying49 iSH.out.1 iSH.out.2.1 rfl iSH.out.2.2.1 l.length rfl rfl iSH.out.2.2.2 (by omega) ?_; intro W hwh hbW hsW))
  have s0 : Hid (RbS w2 W w2.heap.size l.length 0 (fun _ => 0) fun _ _ => false) := ⟨mat_new hwh (Nat.le_refl _), hbW⟩
  have hDm : Hid (∀ p, p ∈ D ↔ p.1 < p.2 ∧ p.2 < l.length ∧ edgeB (dpf l) B p.1 p.2 = true) := fun p => by rw [hD.out.1.mem_iff]; exact hEm.out p
  have hDl : (D.length : Int) ≤ 65536 := by have := hEl.out; rw [hD.out.1.length_eq]; omega
  have hDs : Hid (D.Pairwise lex) := hD.out.2.1
  clear hwh hbW hsW hEm hEl hD
  obtain ⟨A, hA⟩ : ∃ A, w2.heap.size = A := ⟨_, rfl⟩
  rw [hA] at s0 ⊢
  clear hA
  go_loopw [7] (fun u wr => ∃ (k : Nat) (rb : Nat → Nat), k ≤ l.length ∧ u = .int .i64 k ∧ Hid (RbS w2 wr A l.length k rb fun _ _ => false)) (fun u _ => l.length - (intOf u).toNat)
  case atStart => exact ⟨0, _, Nat.zero_le _, rfl, s0⟩
  case round =>
    obtain ⟨k, rb, hk, rfl, hs⟩ := hrel
    clear s0
    by_cases hlt : k < l.length
    · have hkI : (k : Int) < l.length := by omega
      have xA := ix_row A l.length k hlt
      have nx : Hid (∀ W', W'.heap[wr.heap.size]? = some (.cells (List.replicate l.length (Value.bool false)).toArray 4 (0, 0)) → Below wr.heap.size wr W' → RbS w2 (W'.setCell ⟨A, k, none⟩ (.slice (some ⟨wr.heap.size, 0, none⟩) l.length l.length)) A l.length (k + 1) (fun i => if i = k then wr.heap.size else rb i) (fun _ _ => false)) := fun W' h1 h2 => by
        have hm := hs.out.m.more hlt (by have := hs.out.b.size; omega) (Nat.le_refl _) h2 (by rw [h1, boolRow_new])
        exact ⟨hm.congr fun i j _ _ => by split <;> rfl, by
          rw [setCell_eq_setRow W' A k _ _ _ _ (hs.out.m.later h2).a]
          exact below_setRow (bthen hs.out.b h2) hs.out.m.lo.1 _⟩
      have cl : Hid (∀ W', Below wr.heap.size wr W' → W'.cell? ⟨A, k, none⟩ = some (.slice none 0 0) ∧ W'.frozen? ⟨A, k, none⟩ = false) := fun W' h2 => by
        have h3 := (hs.out.m.later h2).a
        exact ⟨cell_of h3 (by rw [sliceRow_at hlt, if_neg (by omega)]), frozen_of_row _ _ _ _ _ h3⟩
      go_wp2_with (first
        | (refine wpList_mk _ rfl _ _ 52 rfl 4 iB (.bool false) Try.underlying52 iBH.out.1 iBH.out.2.1 rfl iBH.out.2.2.1 l.length rfl rfl iBH.out.2.2.2 (by omega) ?_; intro W1 hwh hbW hsW; (have hnew : Hid (RbS w2 (W1.setCell ⟨A, k, none⟩ (.slice (some ⟨wr.heap.size, 0, none⟩) l.length l.length)) A l.length (k + 1) (fun i => if i = k then wr.heap.size else rb i) (fun _ _ => false)) := nx.out W1 hwh hbW); (have hcl : Hid (W1.cell? ⟨A, k, none⟩ = some (.slice none 0 0) ∧ W1.frozen? ⟨A, k, none⟩ = false) := cl.out W1 hbW); clear hwh hbW hsW nx cl)
        | (refine wpList_puts rfl 52 _ _ rfl ⟨A, k, none⟩ rfl (some ⟨wr.heap.size, 0, none⟩) l.length l.length rfl (by kernel_rfl) _ hcl.out.1 hcl.out.2 ?_; intro W2 hW2; (have s2 : Hid (RbS w2 W2 A l.length (k + 1) (fun i => if i = k then wr.heap.size else rb i) (fun _ _ => false)) := by rw [hW2]; exact hnew.out); clear hW2 hnew hcl))
      go_roundw
      case rel => exact ⟨k + 1, _, by omega, by go_num, s2⟩
      case measure => simp [intOf]; omega
    · have hk2 : k = l.length := by omega
      subst hk2
      clear hlt hk
      have t0 : Hid (RbS w2 wr A l.length l.length rb (gm D B D.length)) := hs.out.cong fun a b => (gm_end D B a b).symm
      clear hs
      go_wp2_with fail
      go_loopw [8] (fun u wq => ∃ k : Nat, k ≤ D.length ∧ u = .int .i64 k ∧ Hid (Below wr.heap.size wr wq)) (fun u _ => D.length - (intOf u).toNat)
      case atStart => exact ⟨0, Nat.zero_le _, rfl, Below.refl _ _⟩
      case round =>
        rename World => wq
        obtain ⟨k, hk, rfl, hbq⟩ := hrel
        by_cases hlt : k < D.length
        · have hkI : (k : Int) < D.length := by omega
          obtain ⟨p, hp, hpm⟩ := get_lt D k hlt
          obtain ⟨p1, p2, _⟩ := (hDm.out p).mp hpm
          have hr : Rows wq 2 da dc (D.map edg) := hD2.out.later (bthen t0.out.b hbq.out)
          obtain ⟨b, o, hix, hbl, hrg⟩ := hr.ix 27 41 Try.underlying27 (by kernel_rfl) (fun wx => Try.sizeOf41 wx) k (row := edg p) (by simp [hp])
          rw [List.length_map] at hix
          have y0 : ∀ wx, (Instr.indexAt 41 (.pointer (some ⟨b, o, none⟩)) (.int .i64 0)).run Try.prog wx = .ok (.pointer (some ⟨b, o, none⟩)) wx := ix_pair b o 0 (by omega)
          have y1 : ∀ wx, (Instr.indexAt 41 (.pointer (some ⟨b, o, none⟩)) (.int .i64 1)).run Try.prog wx = .ok (.pointer (some ⟨b, o + 1, none⟩)) wx := ix_pair b o 1 (by omega)
          have d0 : wq.cell? ⟨b, o, none⟩ = some (.int .i64 (p.1 : Int)) := hrg 0 _ rfl
          have d1 : wq.cell? ⟨b, o + 1, none⟩ = some (.int .i64 (p.2 : Int)) := hrg 1 _ rfl
          have g1 : ¬ (p.1 : Int) < 0 := by omega
          have g2 : decide ((p.2 : Int) ≤ (p.1 : Int)) = false := by rw [decide_eq_false_iff_not]; omega
          have g3 : decide ((l.length : Int) ≤ (p.2 : Int)) = false := by rw [decide_eq_false_iff_not]; omega
          clear hr hrg hbl hp hpm
          generalize p.1 = pi at *
          generalize p.2 = pj at *
          go_wp2_with fail
          go_quiet (fail)
          rename_i nq
          go_wp2
          go_roundw
          case rel => exact ⟨k + 1, by omega, by go_num, below_drewN hbq.out nq⟩
          case measure => simp [intOf]; omega
        · have hk2 : k = D.length := by omega
          subst hk2
          clear hlt hk
          have hwD : wrap64 ((D.length : Int) - 1) = (D.length : Int) - 1 := by simp only [wrap64]; omega
          have t1 : Hid (RbS w2 wq A l.length l.length rb (gm D B D.length)) := t0.out.later hbq.out
          clear t0 hbq
          go_wp2_with fail
          go_loopw [9] (fun u wv => ∃ m : Nat, m ≤ D.length ∧ u = .int .i64 ((m : Int) - 1) ∧ Hid (RbS w2 wv A l.length l.length rb (gm D B m))) (fun u _ => (intOf u + 1).toNat)
          case atStart => exact ⟨D.length, Nat.le_refl _, by first | rfl | rw [hwD], t1⟩
          case round =>
            rename World => wv
            obtain ⟨m, hm, rfl, hs⟩ := hrel
            clear t1
            cases m with
            | succ m =>
              have hmI : ((m + 1 : Nat) : Int) - 1 = (m : Int) := by omega
              rw [hmI]
              have hm0 : (0 : Int) ≤ (m : Int) := by omega
              have hwm : wrap64 ((m : Int) - 1) = (m : Int) - 1 := by simp only [wrap64]; omega
              obtain ⟨p, hp, hpm⟩ := get_lt D m hm
              obtain ⟨p1, p2, _⟩ := (hDm.out p).mp hpm
              have hr : Rows wv 2 da dc (D.map edg) := hD2.out.later hs.out.b
              obtain ⟨b, o, hix, hbl, hrg⟩ := hr.ix 27 41 Try.underlying27 (by kernel_rfl) (fun wx => Try.sizeOf41 wx) m (row := edg p) (by simp [hp])
              rw [List.length_map] at hix
              have y0 : ∀ wx, (Instr.indexAt 41 (.pointer (some ⟨b, o, none⟩)) (.int .i64 0)).run Try.prog wx = .ok (.pointer (some ⟨b, o, none⟩)) wx := ix_pair b o 0 (by omega)
              have y1 : ∀ wx, (Instr.indexAt 41 (.pointer (some ⟨b, o, none⟩)) (.int .i64 1)).run Try.prog wx = .ok (.pointer (some ⟨b, o + 1, none⟩)) wx := ix_pair b o 1 (by omega)
              have d0 : wv.cell? ⟨b, o, none⟩ = some (.int .i64 (p.1 : Int)) := hrg 0 _ rfl
              have d1 : wv.cell? ⟨b, o + 1, none⟩ = some (.int .i64 (p.2 : Int)) := hrg 1 _ rfl
              have hknow : Hid (∀ k, k < l.length → gm D B (m + 1) p.2 k = B p.2 k) := fun k hk => gm_known hBH.out hDm.out hDs.out hp hk
              have hpH : Hid (D[m]? = some p) := hp
              obtain ⟨pa, pb⟩ := p
              have hab : pa < pb := p1
              have hbn : pb < l.length := p2
              have hend : Hid (∀ x y, y < l.length → f4 D B m pa pb l.length x y = gm D B m x y) := fun x y hy => f4_end hpH.out hy
              have hknow2 : Hid (∀ k, k < l.length → gm D B (m + 1) pb k = B pb k) := hknow.out
              have d0' : wv.cell? ⟨b, o, none⟩ = some (.int .i64 (pa : Int)) := d0
              have d1' : wv.cell? ⟨b, o + 1, none⟩ = some (.int .i64 (pb : Int)) := d1
              clear hr hrg hbl hp hpm p1 p2 hknow hpH d0 d1
              go_wp2_with fail
              go_quiet (fail)
              rename_i nq
              have hs1 : Hid (RbS w2 (wv.drewN nq) A l.length l.length rb (gm D B (m + 1))) := hs.out.later (below_drewN (Below.refl _ _) nq)
              clear hs d0' d1' hix y0 y1
              generalize wv.drewN nq = W1 at *
              have xA := ix_row A l.length pa (by omega)
              have xR := ix_bool (rb pa) l.length pb hbn
              have z3 := hs1.out.m.row (i := pa) (by omega) (by omega)
              have z4 : Hid (W1.cell? ⟨rb pa, pb, none⟩ = some (.bool (gm D B (m + 1) pa pb)) ∧ W1.frozen? ⟨rb pa, pb, none⟩ = false) := hs1.out.m.cell (i := pa) (j := pb) (by omega) hbn
              go_wp2_with (first
                | (refine wpList_putb rfl 4 _ _ rfl ⟨rb pa, pb, none⟩ rfl true rfl (by kernel_rfl) _ z4.out.1 z4.out.2 ?_; intro W2 hW2; (have hs2 : Hid (RbS w2 W2 A l.length l.length rb (f4 D B m pa pb 0)) := by (rw [hW2]; exact (hs1.out.put (by omega) pb true).cong fun x y => f4_start D B m pa pb x y)); clear hW2 hs1 z3 z4))
              clear xR
              go_loopw [12] (fun u wy => ∃ k : Nat, k ≤ l.length ∧ u = .int .i64 k ∧ Hid (RbS w2 wy A l.length l.length rb (f4 D B m pa pb k))) (fun u _ => l.length - (intOf u).toNat)
              case atStart => exact ⟨0, Nat.zero_le _, rfl, hs2⟩
              case round =>
                rename World => wy
                obtain ⟨k, hk, rfl, hs⟩ := hrel
                clear hs2
                by_cases hkn : k < l.length
                · have hkI : (k : Int) < l.length := by omega
                  have xB := ix_row A l.length pb hbn
                  have yA := ix_bool (rb pa) l.length k hkn
                  have yB := ix_bool (rb pb) l.length k hkn
                  have u1 := hs.out.m.row (i := pa) (by omega) (by omega)
                  have u1b := hs.out.m.row (i := pb) hbn hbn
                  have u2 := hs.out.m.cell (i := pa) (j := k) (by omega) hkn
                  have u3 := (hs.out.m.cell (i := pb) (j := k) hbn hkn).1
                  have e3 : f4 D B m pa pb k pb k = B pb k := by unfold f4; rw [if_neg (by omega)]; exact hknow2.out k hkn
                  rw [e3] at u3
                  obtain ⟨u2a, u2b⟩ := u2
                  have nx : Hid (∀ v, v = (f4 D B m pa pb k pa k || B pb k) → RbS w2 (wy.setCell ⟨rb pa, k, none⟩ (.bool v)) A l.length l.length rb (f4 D B m pa pb (k + 1))) := fun v hv => (hs.out.put (by omega) k v).cong fun x y => by
                    subst hv
                    exact f4_step D B m pa pb k x y
                  clear hs e3
                  generalize f4 D B m pa pb k pa k = P at *
                  generalize B pb k = Q at *
                  generalize rb pa = Ra at *
                  generalize rb pb = Rc at *
                  cases P with
                  | true =>
                    go_wp2_with fail
                    go_region
                    go_wp2
                    go_roundw
                    case rel => exact ⟨k + 1, by omega, by go_num, (nx.out true rfl).later (Below.refl _ _).drew⟩
                    case measure => simp [intOf]; omega
                  | false =>
                    go_wp2_with fail
                    go_region
                    go_wp2
                    go_roundw
                    case rel => exact ⟨k + 1, by omega, by go_num, (nx.out Q (Bool.false_or _).symm).later (Below.refl _ _).drew⟩
                    case measure => simp [intOf]; omega
                · have hk2 : k = l.length := by omega
                  subst hk2
                  have t3 : Hid (RbS w2 wy A l.length l.length rb (gm D B m)) := ⟨hs.out.m.congr fun x y _ hy => hend.out x y hy, hs.out.b⟩
                  clear hs
                  go_wp2
                  go_roundw
                  case rel => exact ⟨m, by omega, by first | rfl | go_num | rw [hwm], t3⟩
                  case measure => simp [intOf]; try omega
            | zero =>
              have hz0 : (((0 : Nat) : Int) - 1) = -1 := rfl
              rw [hz0]
              clear hz0
              have t4 : Hid (RbS w2 wv A l.length l.length rb B) := ⟨hs.out.m.congr fun x y _ hy => gm_zero hBH.out hDm.out hy, hs.out.b⟩
              clear hs
              go_wp2_with fail
              go_loopw [13] (fun u wy => ∃ i : Nat, i ≤ l.length ∧ u = .int .i64 i ∧ Hid (RbS w2 wy A l.length l.length rb B)) (fun u _ => l.length - (intOf u).toNat)
              case atStart => exact ⟨0, Nat.zero_le _, rfl, t4⟩
              case round =>
                rename World => wy
                obtain ⟨i, hi, rfl, hs⟩ := hrel
                clear t4
                by_cases hin : i < l.length
                · have hiI : (i : Int) < l.length := by omega
                  go_wp2_with fail
                  go_loopw [14] (fun u wz => ∃ j : Nat, j ≤ l.length ∧ u = .int .i64 j ∧ Hid (RbS w2 wz A l.length l.length rb B)) (fun u _ => l.length - (intOf u).toNat)
                  case atStart => exact ⟨0, Nat.zero_le _, rfl, hs⟩
                  case round =>
                    rename World => wz
                    obtain ⟨j, hj, rfl, hz⟩ := hrel
                    clear hs
                    by_cases hjn : j < l.length
                    · have hjI : (j : Int) < l.length := by omega
                      obtain ⟨P, hP⟩ : ∃ P, B i j = P := ⟨_, rfl⟩
                      have cB2 := cB i j wz hin hjn (bthen hB2.out hz.out.b)
                      rw [hP] at cB2
                      have hPH : Hid (B i j = P) := hP
                      have xA := ix_row A l.length i hin
                      have xR := ix_bool (rb i) l.length j hjn
                      have hfin : Hid (i < j → gof l i = gof l j → P = true) := fun h1 h2 => by rw [← hPH.out, hBH.out i j]; exact .one h1 (hord.out i j h1 hjn h2)
                      clear hP
                      cases P with
                      | true =>
                        go_wp2_with (first
                          | (go_at_call 22; (refine cB2.mono ?_); rintro e w5 ⟨rfl, hb5⟩; (have h5 : Hid (RbS w2 w5 A l.length l.length rb B) := hz.out.later hb5); (have v1 := h5.out.m.row hin hin); (have v2 := (h5.out.m.cell hin hjn).1); rw [hPH.out] at v2; clear hb5 hz cB2))
                        obtain ⟨eb, eo, e1, e2, e3⟩ := ev_row (hlH.out.later (bthen hB2.out h5.out.b)) i _ (evf_at hin)
                        obtain ⟨fb, fo, f1, f2, f3⟩ := ev_row (hlH.out.later (bthen hB2.out h5.out.b)) j _ (evf_at hjn)
                        have c1 : w5.cell? ⟨eb, eo, none⟩ = some (.int .i64 (evf l i).go) := e3 0 _ rfl
                        have c2 : w5.cell? ⟨fb, fo, none⟩ = some (.int .i64 (evf l j).go) := f3 0 _ rfl
                        have hgg : Hid ((evf l i).go = (evf l j).go → gof l i = gof l j) := fun q => by unfold gof; rw [q]
                        clear e2 e3 f2 f3 xA xR v1 v2
                        generalize (evf l i).go = gi at *
                        generalize (evf l j).go = gj at *
                        by_cases hij : i < j
                        · have hijI : (i : Int) < j := by omega
                          by_cases hg : gi = gj
                          · subst hg
                            clear cB
                            go_quiet (fail)
                            rename_i nq
                            go_wp2
                            go_roundw
                            case rel => exact ⟨j + 1, by omega, by go_num, h5.out.later (below_drewN (Below.refl _ _) nq)⟩
                            case measure => simp [intOf]; omega
                          · have hgd : (gi == gj) = false := by rw [beq_eq_false_iff_ne]; exact hg
                            clear cB
                            go_quiet (fail)
                            rename_i nq
                            go_wp2
                            go_roundw
                            case rel => exact ⟨j + 1, by omega, by go_num, h5.out.later (below_drewN (Below.refl _ _) nq)⟩
                            case measure => simp [intOf]; omega
                        · have hijd : decide ((i : Int) < j) = false := by rw [decide_eq_false_iff_not]; omega
                          clear cB
                          go_quiet (fail)
                          rename_i nq
                          go_wp2
                          go_roundw
                          case rel => exact ⟨j + 1, by omega, by go_num, h5.out.later (below_drewN (Below.refl _ _) nq)⟩
                          case measure => simp [intOf]; omega
                      | false =>
                        go_wp2_with (first
                          | (go_at_call 22; (refine cB2.mono ?_); rintro e w5 ⟨rfl, hb5⟩; (have h5 : Hid (RbS w2 w5 A l.length l.length rb B) := hz.out.later hb5); (have v1 := h5.out.m.row hin hin); (have v2 := (h5.out.m.cell hin hjn).1); rw [hPH.out] at v2; clear hb5 hz cB2))
                        obtain ⟨eb, eo, e1, e2, e3⟩ := ev_row (hlH.out.later (bthen hB2.out h5.out.b)) i _ (evf_at hin)
                        obtain ⟨fb, fo, f1, f2, f3⟩ := ev_row (hlH.out.later (bthen hB2.out h5.out.b)) j _ (evf_at hjn)
                        have c1 : w5.cell? ⟨eb, eo, none⟩ = some (.int .i64 (evf l i).go) := e3 0 _ rfl
                        have c2 : w5.cell? ⟨fb, fo, none⟩ = some (.int .i64 (evf l j).go) := f3 0 _ rfl
                        have hgg : Hid ((evf l i).go = (evf l j).go → gof l i = gof l j) := fun q => by unfold gof; rw [q]
                        clear e2 e3 f2 f3 xA xR v1 v2
                        generalize (evf l i).go = gi at *
                        generalize (evf l j).go = gj at *
                        by_cases hij : i < j
                        · have hijI : (i : Int) < j := by omega
                          by_cases hg : gi = gj
                          · exact absurd (hfin.out hij (hgg.out hg)) (by simp)
                          · have hgd : (gi == gj) = false := by rw [beq_eq_false_iff_ne]; exact hg
                            clear cB
                            go_quiet (fail)
                            rename_i nq
                            go_wp2
                            go_roundw
                            case rel => exact ⟨j + 1, by omega, by go_num, h5.out.later (below_drewN (Below.refl _ _) nq)⟩
                            case measure => simp [intOf]; omega
                        · have hijd : decide ((i : Int) < j) = false := by rw [decide_eq_false_iff_not]; omega
                          clear cB
                          go_quiet (fail)
                          rename_i nq
                          go_wp2
                          go_roundw
                          case rel => exact ⟨j + 1, by omega, by go_num, h5.out.later (below_drewN (Below.refl _ _) nq)⟩
                          case measure => simp [intOf]; omega
                    · have hj2 : j = l.length := by omega
                      subst hj2
                      go_wp2
                      go_roundw
                      case rel => exact ⟨i + 1, by omega, by go_num, hz⟩
                      case measure => simp [intOf]; omega
                · have hi2 : i = l.length := by omega
                  subst hi2
                  go_wp2_with (go_at_call 16; (with_reducible refine (cS _).mono ?_); rintro e w9 ⟨rfl, hb9⟩; (have hB9 : Hid (Below w.heap.size w w9) := bthen (bthen hB2.out hs.out.b) hb9))
                  go_ret
                  exact ⟨rfl, hB9.out⟩
theorem follows_any (l : List Ev) (la : Option Addr) (lc : Nat) (w : World) (hl : EvsIn w la lc l) : Calls Try.prog 6 #[.slice la l.length lc] w fun e w' => e = .returned (.bool true) ∧ Below w.heap.size w w' := by
  by_cases h60 : 60 < l.length
  · exact follows_out l la lc w hl.1 (.inl h60)
  · obtain ⟨c, hc⟩ := check_ex l
    by_cases h0 : c = 0
    · subst h0
      obtain ⟨hlen, hrt⟩ : l.length ≤ 256 ∧ ∀ x ∈ l, rightP x := by rcases hc with ⟨_, q⟩ | ⟨_, _, q⟩ | ⟨a, b, _⟩ <;> first | exact ⟨a, b⟩ | omega
      exact follows_in l la lc w hl.1 (by omega) hrt
    · exact follows_out l la lc w hl.1 (.inr ⟨c, hc, by rcases hc with ⟨_, q⟩ | ⟨_, _, q⟩ | ⟨_, _, q⟩ <;> omega⟩)
end Go.Proofs.Ytkhhkgfaakgdfaa.pg
