/- A trace with two neighbours changed about, and its clocks. -/
import Derived.Test.YtafefnkgdnmjbaaGreatDoorM17
import Derived.Test.YtafefnkgdnmjbaaGreatDoorM22
namespace Go.Proofs.YtafefnkgdnmjbaaGreatDoor.pg
open Go.ChangeShapes Go.WideShapes Go.ChangeAt Go.RowKit Go.Shelf
set_option linter.unusedVariables false
set_option linter.unusedSimpArgs false
def swl (l : List Ev) (i : Nat) : List Ev := (l.set i (evf l (i + 1))).set (i + 1) (evf l i)
theorem swl_len (l : List Ev) (i : Nat) : (swl l i).length = l.length := by simp [swl]
theorem evf_swl {l : List Ev} {i : Nat} (h : i + 1 < l.length) (k : Nat) : evf (swl l i) k = evf l (swp i k) := by
  unfold swp
  by_cases c1 : k = i
  · subst c1
    rw [if_pos rfl]
    conv => lhs; unfold evf swl
    simp only [List.getD_eq_getElem?_getD, List.getElem?_set, List.length_set]
    rw [if_neg (by omega), if_true, if_pos (by omega)]
    rfl
  · rw [if_neg c1]
    by_cases c2 : k = i + 1
    · subst c2
      rw [if_pos rfl]
      conv => lhs; unfold evf swl
      simp only [List.getD_eq_getElem?_getD, List.getElem?_set, List.length_set]
      rw [if_true, if_pos (by omega)]
      rfl
    · rw [if_neg c2]
      conv => lhs; unfold evf swl
      simp only [List.getD_eq_getElem?_getD, List.getElem?_set, List.length_set]
      rw [if_neg (Ne.symm c2), if_neg (Ne.symm c1)]
      simp [evf, List.getD_eq_getElem?_getD]
theorem right_swl {l : List Ev} {i : Nat} (h : i + 1 < l.length) (hrt : ∀ x ∈ l, rightP x) : ∀ x ∈ swl l i, rightP x := by
  intro x hx
  have h1 := hrt _ (List.mem_of_getElem? (evf_at (l := l) (i := i) (by omega)))
  have h2 := hrt _ (List.mem_of_getElem? (evf_at (l := l) (i := i + 1) h))
  unfold swl at hx
  rcases List.mem_or_eq_of_mem_set hx with hx | rfl
  · rcases List.mem_or_eq_of_mem_set hx with hx | rfl
    · exact hrt x hx
    · exact h2
  · exact h1
theorem ck_ext {x y : Ck} (h : ∀ a, a < 6 → x.of a = y.of a) : x = y := by
  have h0 := h 0 (by omega)
  have h1 := h 1 (by omega)
  have h2 := h 2 (by omega)
  have h3 := h 3 (by omega)
  have h4 := h 4 (by omega)
  have h5 := h 5 (by omega)
  cases x; cases y
  simp [Ck.of, Ck.list] at h0 h1 h2 h3 h4 h5
  simp [h0, h1, h2, h3, h4, h5]
theorem rel_get (ev : Nat → Ev) (n k : Nat) (hk : k < n) : (rel ev n).1[k]? = some ((rel ev n).1.getD k zeroK) := by
  have := rel_len ev n
  rw [List.getD_eq_getElem?_getD, List.getElem?_eq_getElem (by omega)]; rfl
theorem rel_swl {l : List Ev} {i : Nat} (hrt : ∀ x ∈ l, rightP x) (h : i + 1 < l.length) (hd : clash (evf l i).of (evf l (i + 1)).of = false) (k : Nat) (hk : k < l.length) :
    (rel (evf (swl l i)) l.length).1.getD k zeroK = (rel (evf l) l.length).1.getD (swp i k) zeroK := by
  obtain ⟨B, hB⟩ := tells_some (dpf l)
  obtain ⟨B', hB'⟩ := tells_some (dpf (swl l i))
  have hk2 : swp i k < l.length := swp_lt h hk
  refine ck_ext fun a ha => ?_
  have e1 := rel_is (right_swl h hrt) hB' l.length (by rw [swl_len]; exact Nat.le_refl _) k _ (rel_get _ _ k hk) a ha
  have e2 := rel_is hrt hB l.length (Nat.le_refl _) (swp i k) _ (rel_get _ _ _ hk2) a ha
  rw [e1, e2]
  have := ck_swp hB hB' (g := gof l) (g' := gof (swl l i)) (i := i) (n := l.length) (by omega) (fun a b => by unfold dpf; rw [evf_swl h, evf_swl h]) (fun a => by unfold gof; rw [evf_swl h]) hd (by unfold dpf; rw [clash_comm]; exact hd) hk2 a
  rw [swp_swp] at this
  rw [this]
end Go.Proofs.YtafefnkgdnmjbaaGreatDoor.pg
/- Apart, Past and Lasts of package order. -/
namespace Go.Proofs.YtafefnkgdnmjbaaGreatDoor.pg
open Go.ChangeShapes Go.WideShapes Go.ChangeAt Go.RowKit Go.Shelf
set_option linter.unusedVariables false
set_option linter.unusedSimpArgs false
set_option maxRecDepth 100000
attribute [local go_sem ↓] Go.wp_at_zero Go.wp_at_succ
/-- By the clocks, or by what depends on what: the same. -/
theorem bef_is {l : List Ev} (hrt : ∀ x ∈ l, rightP x) {B : Nat → Nat → Bool} (hB : Tells (dpf l) B) {i j : Nat} (hi : i < l.length) (hj : j < l.length) : befK (rel (evf l) l.length).1 l i j = B i j := by
  have xi := rel_is hrt hB l.length (Nat.le_refl _) i _ (rel_get _ _ i hi)
  have xj := rel_is hrt hB l.length (Nat.le_refl _) j _ (rel_get _ _ j hj)
  have hg : gof l i < 6 := gof_lt hrt hi
  unfold befK
  by_cases hij : i < j
  · have h1 := before_iff hB (ord_ok hrt) hij hj
    have a := xi (gof l i) hg
    have b := xj (gof l i) hg
    rw [Bool.eq_iff_iff, ← h1]
    unfold gof at a b ⊢
    simp only [hij, decide_true, Bool.true_and, decide_eq_true_eq]
    rw [a, b]
    omega
  · have : B i j = false := by
      rw [Bool.eq_false_iff]
      intro q
      exact hij ((hB i j).mp q).lt
    rw [this]
    simp [hij]
theorem looks_two (l : List Ev) (la : Option Addr) (lc : Nat) (i j : Nat) (w : World) (hl : Rows w 26 la lc (l.map Ev.cells)) (hlen : l.length ≤ 256) (hrt : ∀ x ∈ l, rightP x) (hi : i < l.length) (hj : j < l.length) :
    Calls Tryz.prog 79 #[.slice la l.length lc, .slice (some ⟨w.heap.size, 0, none⟩) 2 2] (w.alloc (.cells #[.int .i64 (i : Int), .int .i64 (j : Int)] 3)) (LookPost l la lc (w.alloc (.cells #[.int .i64 (i : Int), .int .i64 (j : Int)] 3))) :=
  look_any l la lc [(i : Int), (j : Int)] (some ⟨w.heap.size, 0, none⟩) 2 _ (hl.later (boxed _ _)) (rows_ij w i j) hlen hrt (by simp) (by intro p hp; simp at hp; rcases hp with rfl | rfl <;> omega)
theorem looks_one (l : List Ev) (la : Option Addr) (lc : Nat) (i : Nat) (w : World) (hl : Rows w 26 la lc (l.map Ev.cells)) (hlen : l.length ≤ 256) (hrt : ∀ x ∈ l, rightP x) (hi : i < l.length) :
    Calls Tryz.prog 79 #[.slice la l.length lc, .slice (some ⟨w.heap.size, 0, none⟩) 1 1] (w.alloc (.cells #[.int .i64 (i : Int)] 3)) (LookPost l la lc (w.alloc (.cells #[.int .i64 (i : Int)] 3))) :=
  look_any l la lc [(i : Int)] (some ⟨w.heap.size, 0, none⟩) 1 _ (hl.later (boxed _ _)) (rows_one1 w i) hlen hrt (by simp) (by intro p hp; simp at hp; subst hp; omega)
/-- The relation in its box, beyond a world. -/
structure RelB (w W : World) (l : List Ev) (la : Option Addr) (lc Rr : Nat) (ca : Option Addr) (cc : Nat) (da : Option Addr) (dc : Nat) : Prop where
  r : W.heap[Rr]? = some (.cells #[.slice la l.length lc, .slice ca l.length cc, .slice da (rel (evf l) l.length).2.length dc] 138)
  c : OwnL W w.heap.size 114 6 ca cc ((rel (evf l) l.length).1.map Ck.cells)
  e : OwnL W w.heap.size 71 2 da dc ((rel (evf l) l.length).2.map edg)
  b : Below w.heap.size w W
theorem RelB.later {w W W' : World} {l : List Ev} {la : Option Addr} {lc Rr : Nat} {ca : Option Addr} {cc : Nat} {da : Option Addr} {dc : Nat} (h : RelB w W l la lc Rr ca cc da dc) (hb : Below W.heap.size W W') : RelB w W' l la lc Rr ca cc da dc :=
  ⟨(hb.block _ (Array.getElem?_eq_some_iff.mp h.r).1).trans h.r, own_keep h.c fun b hb' => hb.block b (blk_lt h.c b hb').2, own_keep h.e fun b hb' => hb.block b (blk_lt h.e b hb').2, bthen h.b hb⟩
theorem RelB.range {w W : World} {l : List Ev} {la : Option Addr} {lc Rr : Nat} {ca : Option Addr} {cc : Nat} {da : Option Addr} {dc : Nat} (h : RelB w W l la lc Rr ca cc da dc) : W.rangeAt Rr 0 [.slice la l.length lc, .slice ca l.length cc, .slice da (rel (evf l) l.length).2.length dc] := fun q v hv => cell_of h.r (by rw [Nat.zero_add]; simpa using hv)
theorem relB_new {w w1 : World} {l : List Ev} {la : Option Addr} {lc lo : Nat} {ca : Option Addr} {cc : Nat} {da : Option Addr} {dc : Nat} (hlo : w.heap.size ≤ lo) (h1 : OwnL w1 lo 114 6 ca cc ((rel (evf l) l.length).1.map Ck.cells)) (h2 : OwnL w1 lo 71 2 da dc ((rel (evf l) l.length).2.map edg)) (hb : Below w.heap.size w w1) :
    RelB w (w1.alloc (.cells #[.slice la l.length lc, .slice ca l.length cc, .slice da (rel (evf l) l.length).2.length dc] 138)) l la lc w1.heap.size ca cc da dc :=
  ⟨heap_alloc_new _ _, own_mono_q (own_keep h1 fun b hb' => (boxed w1 _).block b (blk_lt h1 b hb').2) hlo, own_mono_q (own_keep h2 fun b hb' => (boxed w1 _).block b (blk_lt h2 b hb').2) hlo, bthen hb (boxed _ _)⟩
end Go.Proofs.YtafefnkgdnmjbaaGreatDoor.pg
/- Past and Lasts of package order. -/
namespace Go.Proofs.YtafefnkgdnmjbaaGreatDoor.pg
open Go.ChangeShapes Go.WideShapes Go.ChangeAt Go.RowKit Go.Shelf
set_option linter.unusedVariables false
set_option linter.unusedSimpArgs false
set_option maxRecDepth 100000
attribute [local go_sem ↓] Go.wp_at_zero Go.wp_at_succ
/-- A set in a block of its own, beyond a world. -/
structure SetB (W1 W : World) (P : Nat) (f : Nat → Bool) : Prop where
  s : W.heap[P]? = some (.cells (boolRow 256 f) 142)
  b : Below W1.heap.size W1 W
  l : W1.heap.size ≤ P
theorem SetB.later {W1 W W' : World} {P : Nat} {f : Nat → Bool} (h : SetB W1 W P f) (hb : Below W.heap.size W W') : SetB W1 W' P f :=
  ⟨(hb.block _ (Array.getElem?_eq_some_iff.mp h.s).1).trans h.s, bthen h.b hb, h.l⟩
theorem SetB.put {W1 W : World} {P : Nat} {f : Nat → Bool} (h : SetB W1 W P f) (k : Nat) (v : Bool) : SetB W1 (W.setCell ⟨P, k, none⟩ (.bool v)) P (fun b => if b = k then v else f b) := by
  rw [setCell_eq_setRow W P k _ _ _ _ h.s, boolRow_set]
  exact ⟨setRow_heap W P _ _ _ _ h.s, below_setRow h.b h.l _, h.l⟩
theorem SetB.cell {W1 W : World} {P : Nat} {f : Nat → Bool} (h : SetB W1 W P f) {k : Nat} (hk : k < 256) : W.cell? ⟨P, k, none⟩ = some (.bool (f k)) ∧ W.frozen? ⟨P, k, none⟩ = false :=
  ⟨cell_of h.s (boolRow_at hk), frozen_of_row _ _ _ _ _ h.s⟩
theorem SetB.cong {W1 W : World} {P : Nat} {f g : Nat → Bool} (h : SetB W1 W P f) (e : ∀ k, f k = g k) : SetB W1 W P g := by
  have : f = g := funext e
  rwa [← this]
theorem setB_new (W1 : World) : SetB W1 (W1.alloc (.cells (boolRow 256 fun _ => false) 142)) W1.heap.size (fun _ => false) := ⟨heap_alloc_new _ _, boxed _ _, Nat.le_refl _⟩
def fPast (l : List Ev) (i k a : Nat) : Bool := decide (a < k) && befK (rel (evf l) l.length).1 l a i
theorem fPast_more (l : List Ev) (i k a : Nat) : (if a = k then befK (rel (evf l) l.length).1 l k i else fPast l i k a) = fPast l i (k + 1) a := by
  unfold fPast
  by_cases h : a = k
  · subst h
    rw [if_pos rfl]
    have : decide (a < a + 1) = true := by simp
    rw [this, Bool.true_and]
  · rw [if_neg h]
    have : decide (a < k) = decide (a < k + 1) := by rw [decide_eq_decide]; omega
    rw [this]
end Go.Proofs.YtafefnkgdnmjbaaGreatDoor.pg
