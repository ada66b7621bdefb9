/- A trace with two neighbours changed about, and its clocks. -/
import Derived.Test.YtkhhkgfaakgdfaaM23
import Derived.Test.YtkhhkgfaakgdfaaM31
import Derived.Test.YtkhhkgfaakgdfaaM32
namespace Go.Proofs.Ytkhhkgfaakgdfaa.pg
open Go.ChangeShapes Go.WideShapes Go.ChangeAt Go.RowKit Go.Shelf
set_option linter.unusedVariables false
set_option linter.unusedSimpArgs false
def swl (l : List Ev) (i : Nat) : List Ev := (l.set i (evf l (i + 1))).set (i + 1) (evf l i)
theorem swl_len (l : List Ev) (i : Nat) : (swl l i).length = l.length := by simp [swl]
theorem evf_swl {l : List Ev} {i : Nat} (h : i + 1 < l.length) (k : Nat) : evf (swl l i) k = evf l (swp i k) := by
  unfold swp
  by_cases c1 : k = i
  · subst c1
    rw [if_pos rfl]
    conv => lhs; unfold evf swl
    simp only [List.getD_eq_getElem?_getD, List.getElem?_set, List.length_set]
    rw [if_neg (by omega), if_true, if_pos (by omega)]
    rfl
  · rw [if_neg c1]
    by_cases c2 : k = i + 1
    · subst c2
      rw [if_pos rfl]
      conv => lhs; unfold evf swl
      simp only [List.getD_eq_getElem?_getD, List.getElem?_set, List.length_set]
      rw [if_true, if_pos (by omega)]
      rfl
    · rw [if_neg c2]
      conv => lhs; unfold evf swl
      simp only [List.getD_eq_getElem?_getD, List.getElem?_set, List.length_set]
      rw [if_neg (Ne.symm c2), if_neg (Ne.symm c1)]
      simp [evf, List.getD_eq_getElem?_getD]
theorem right_swl {l : List Ev} {i : Nat} (h : i + 1 < l.length) (hrt : ∀ x ∈ l, rightP x) : ∀ x ∈ swl l i, rightP x := by
  intro x hx
  have h1 := hrt _ (List.mem_of_getElem? (evf_at (l := l) (i := i) (by omega)))
  have h2 := hrt _ (List.mem_of_getElem? (evf_at (l := l) (i := i + 1) h))
  unfold swl at hx
  rcases List.mem_or_eq_of_mem_set hx with hx | rfl
  · rcases List.mem_or_eq_of_mem_set hx with hx | rfl
    · exact hrt x hx
    · exact h2
  · exact h1
theorem ck_ext {x y : Ck} (h : ∀ a, a < 6 → x.of a = y.of a) : x = y := by
  have h0 := h 0 (by omega)
  have h1 := h 1 (by omega)
  have h2 := h 2 (by omega)
  have h3 := h 3 (by omega)
  have h4 := h 4 (by omega)
  have h5 := h 5 (by omega)
  cases x; cases y
  simp [Ck.of, Ck.list] at h0 h1 h2 h3 h4 h5
  simp [h0, h1, h2, h3, h4, h5]
theorem rel_get (ev : Nat → Ev) (n k : Nat) (hk : k < n) : (rel ev n).1[k]? = some ((rel ev n).1.getD k zeroK) := by
  have := rel_len ev n
  rw [List.getD_eq_getElem?_getD, List.getElem?_eq_getElem (by omega)]; rfl
theorem rel_swl {l : List Ev} {i : Nat} (hrt : ∀ x ∈ l, rightP x) (h : i + 1 < l.length) (hd : clash (evf l i).of (evf l (i + 1)).of = false) (k : Nat) (hk : k < l.length) :
    (rel (evf (swl l i)) l.length).1.getD k zeroK = (rel (evf l) l.length).1.getD (swp i k) zeroK := by
  obtain ⟨B, hB⟩ := tells_some (dpf l)
  obtain ⟨B', hB'⟩ := tells_some (dpf (swl l i))
  have hk2 : swp i k < l.length := swp_lt h hk
  refine ck_ext fun a ha => ?_
  have e1 := rel_is (right_swl h hrt) hB' l.length (by rw [swl_len]; exact Nat.le_refl _) k _ (rel_get _ _ k hk) a ha
  have e2 := rel_is hrt hB l.length (Nat.le_refl _) (swp i k) _ (rel_get _ _ _ hk2) a ha
  rw [e1, e2]
  have := ck_swp hB hB' (g := gof l) (g' := gof (swl l i)) (i := i) (n := l.length) (by omega) (fun a b => by unfold dpf; rw [evf_swl h, evf_swl h]) (fun a => by unfold gof; rw [evf_swl h]) hd (by unfold dpf; rw [clash_comm]; exact hd) hk2 a
  rw [swp_swp] at this
  rw [this]
end Go.Proofs.Ytkhhkgfaakgdfaa.pg
/- Apart, Past and Lasts of package order. -/
namespace Go.Proofs.Ytkhhkgfaakgdfaa.pg
open Go.ChangeShapes Go.WideShapes Go.ChangeAt Go.RowKit Go.Shelf
set_option linter.unusedVariables false
set_option linter.unusedSimpArgs false
set_option maxRecDepth 100000
attribute [local go_sem ↓] Go.wp_at_zero Go.wp_at_succ
/-- By the clocks, or by what depends on what: the same. -/
theorem bef_is {l : List Ev} (hrt : ∀ x ∈ l, rightP x) {B : Nat → Nat → Bool} (hB : Tells (dpf l) B) {i j : Nat} (hi : i < l.length) (hj : j < l.length) : befK (rel (evf l) l.length).1 l i j = B i j := by
  have xi := rel_is hrt hB l.length (Nat.le_refl _) i _ (rel_get _ _ i hi)
  have xj := rel_is hrt hB l.length (Nat.le_refl _) j _ (rel_get _ _ j hj)
  have hg : gof l i < 6 := gof_lt hrt hi
  unfold befK
  by_cases hij : i < j
  · have h1 := before_iff hB (ord_ok hrt) hij hj
    have a := xi (gof l i) hg
    have b := xj (gof l i) hg
    rw [Bool.eq_iff_iff, ← h1]
    unfold gof at a b ⊢
    simp only [hij, decide_true, Bool.true_and, decide_eq_true_eq]
    rw [a, b]
    omega
  · have : B i j = false := by
      rw [Bool.eq_false_iff]
      intro q
      exact hij ((hB i j).mp q).lt
    rw [this]
    simp [hij]
theorem looks_two (l : List Ev) (la : Option Addr) (lc : Nat) (i j : Nat) (w : World) (hl : Rows w 26 la lc (l.map Ev.cells)) (hlen : l.length ≤ 256) (hrt : ∀ x ∈ l, rightP x) (hi : i < l.length) (hj : j < l.length) :
    Calls Try.prog 42 #[.slice la l.length lc, .slice (some ⟨w.heap.size, 0, none⟩) 2 2] (w.alloc (.cells #[.int .i64 (i : Int), .int .i64 (j : Int)] 3)) (LookPost l la lc (w.alloc (.cells #[.int .i64 (i : Int), .int .i64 (j : Int)] 3))) :=
  look_any l la lc [(i : Int), (j : Int)] (some ⟨w.heap.size, 0, none⟩) 2 _ (hl.later (boxed _ _)) (rows_ij w i j) hlen hrt (by simp) (by intro p hp; simp at hp; rcases hp with rfl | rfl <;> omega)
theorem looks_one (l : List Ev) (la : Option Addr) (lc : Nat) (i : Nat) (w : World) (hl : Rows w 26 la lc (l.map Ev.cells)) (hlen : l.length ≤ 256) (hrt : ∀ x ∈ l, rightP x) (hi : i < l.length) :
    Calls Try.prog 42 #[.slice la l.length lc, .slice (some ⟨w.heap.size, 0, none⟩) 1 1] (w.alloc (.cells #[.int .i64 (i : Int)] 3)) (LookPost l la lc (w.alloc (.cells #[.int .i64 (i : Int)] 3))) :=
  look_any l la lc [(i : Int)] (some ⟨w.heap.size, 0, none⟩) 1 _ (hl.later (boxed _ _)) (rows_one1 w i) hlen hrt (by simp) (by intro p hp; simp at hp; subst hp; omega)
/-- The relation in its box, beyond a world. -/
structure RelB (w W : World) (l : List Ev) (la : Option Addr) (lc Rr : Nat) (ca : Option Addr) (cc : Nat) (da : Option Addr) (dc : Nat) : Prop where
  r : W.heap[Rr]? = some (.cells #[.slice la l.length lc, .slice ca l.length cc, .slice da (rel (evf l) l.length).2.length dc] 78)
  c : OwnL W w.heap.size 40 6 ca cc ((rel (evf l) l.length).1.map Ck.cells)
  e : OwnL W w.heap.size 41 2 da dc ((rel (evf l) l.length).2.map edg)
  b : Below w.heap.size w W
theorem RelB.later {w W W' : World} {l : List Ev} {la : Option Addr} {lc Rr : Nat} {ca : Option Addr} {cc : Nat} {da : Option Addr} {dc : Nat} (h : RelB w W l la lc Rr ca cc da dc) (hb : Below W.heap.size W W') : RelB w W' l la lc Rr ca cc da dc :=
  ⟨(hb.block _ (Array.getElem?_eq_some_iff.mp h.r).1).trans h.r, own_keep h.c fun b hb' => hb.block b (blk_lt h.c b hb').2, own_keep h.e fun b hb' => hb.block b (blk_lt h.e b hb').2, bthen h.b hb⟩
theorem RelB.range {w W : World} {l : List Ev} {la : Option Addr} {lc Rr : Nat} {ca : Option Addr} {cc : Nat} {da : Option Addr} {dc : Nat} (h : RelB w W l la lc Rr ca cc da dc) : W.rangeAt Rr 0 [.slice la l.length lc, .slice ca l.length cc, .slice da (rel (evf l) l.length).2.length dc] := fun q v hv => cell_of h.r (by rw [Nat.zero_add]; simpa using hv)
theorem relB_new {w w1 : World} {l : List Ev} {la : Option Addr} {lc lo : Nat} {ca : Option Addr} {cc : Nat} {da : Option Addr} {dc : Nat} (hlo : w.heap.size ≤ lo) (h1 : OwnL w1 lo 40 6 ca cc ((rel (evf l) l.length).1.map Ck.cells)) (h2 : OwnL w1 lo 41 2 da dc ((rel (evf l) l.length).2.map edg)) (hb : Below w.heap.size w w1) :
    RelB w (w1.alloc (.cells #[.slice la l.length lc, .slice ca l.length cc, .slice da (rel (evf l) l.length).2.length dc] 78)) l la lc w1.heap.size ca cc da dc :=
  ⟨heap_alloc_new _ _, own_mono_q (own_keep h1 fun b hb' => (boxed w1 _).block b (blk_lt h1 b hb').2) hlo, own_mono_q (own_keep h2 fun b hb' => (boxed w1 _).block b (blk_lt h2 b hb').2) hlo, bthen hb (boxed _ _)⟩
theorem RelB.before {w W : World} {l : List Ev} {la : Option Addr} {lc Rr : Nat} {ca : Option Addr} {cc : Nat} {da : Option Addr} {dc : Nat} (h : RelB w W l la lc Rr ca cc da dc) (hl : Rows w 26 la lc (l.map Ev.cells)) (hlen : l.length ≤ 256) (hrt : ∀ x ∈ l, rightP x) {i j : Nat} (hi : i < l.length) (hj : j < l.length) (R : Bool) (hR : Hid (R = befK (rel (evf l) l.length).1 l i j)) :
    Calls Try.prog 50 #[relV la l.length lc ca l.length cc da (rel (evf l) l.length).2.length dc, .int .i64 (i : Int), .int .i64 (j : Int)] W fun e w' => e = .returned (.bool R) ∧ Below W.heap.size W w' := by
  have c2 := rbefore_any l la lc _ ca cc _ da (rel (evf l) l.length).2.length dc i j _ (hl.later h.b) h.c hlen hrt (rel_len _ _) hi hj R hR
  rwa [rel_len] at c2
set_option maxHeartbeats 2000000 in
theorem apart_ok (l : List Ev) (la : Option Addr) (lc : Nat) (i j : Nat) (w : World) (hl : Rows w 26 la lc (l.map Ev.cells)) (hlen : l.length ≤ 256) (hrt : ∀ x ∈ l, rightP x) (hi : i < l.length) (hj : j < l.length) (R : Bool) (hR : Hid (R = (!(i == j) && (!befK (rel (evf l) l.length).1 l i j && !befK (rel (evf l) l.length).1 l j i)))) :
    Calls Try.prog 23 #[.slice la l.length lc, .int .i64 (i : Int), .int .i64 (j : Int)] w fun e w' => e = .returned (.tuple #[.bool R, .int .i64 0]) ∧ Below w.heap.size w w' := by
  have bx := boxed w (.cells #[.int .i64 (i : Int), .int .i64 (j : Int)] 3)
  have c1 := looks_two l la lc i j w hl hlen hrt hi hj
  have hlH : Hid (Rows w 26 la lc (l.map Ev.cells)) := hl
  have hrtH : Hid (∀ x ∈ l, rightP x) := hrt
  obtain ⟨P, hP⟩ : ∃ P, Hid (P = befK (rel (evf l) l.length).1 l i j) := ⟨_, rfl⟩
  obtain ⟨Q, hQ⟩ : ∃ Q, Hid (Q = befK (rel (evf l) l.length).1 l j i) := ⟨_, rfl⟩
  have hR2 : Hid (R = (!(i == j) && (!P && !Q))) := by show _ = _; rw [hR.out, hP.out, hQ.out]
  have huR : Hid (Try.prog.underlying 78 = _) := Try.underlying78
  have cP : ∀ W ca cc da dc Rr, Hid (RelB w W l la lc Rr ca cc da dc) → Calls Try.prog 50 #[relV la l.length lc ca l.length cc da (rel (evf l) l.length).2.length dc, .int .i64 (i : Int), .int .i64 (j : Int)] W fun e w' => e = .returned (.bool P) ∧ Below W.heap.size W w' := fun W ca cc da dc Rr h => h.out.before hlH.out hlen hrtH.out hi hj P hP
  have cQ : ∀ W ca cc da dc Rr, Hid (RelB w W l la lc Rr ca cc da dc) → Calls Try.prog 50 #[relV la l.length lc ca l.length cc da (rel (evf l) l.length).2.length dc, .int .i64 (j : Int), .int .i64 (i : Int)] W fun e w' => e = .returned (.bool Q) ∧ Below W.heap.size W w' := fun W ca cc da dc Rr h => h.out.before hlH.out hlen hrtH.out hj hi Q hQ
  have hz : Hid (w.heap.size ≤ (w.alloc (.cells #[.int .i64 (i : Int), .int .i64 (j : Int)] 3)).heap.size) := bx.size
  have hbH : Hid (Below w.heap.size w (w.alloc (.cells #[.int .i64 (i : Int), .int .i64 (j : Int)] 3))) := bx
  clear hl hrt hR hP hQ bx
  by_cases hij : i = j
  · have hR3 : R = false := by rw [hR2.out, hij]; simp
    subst hR3
    subst hij
    clear hR2 cP cQ
    go_enter Try.func23, Try.ntmps23
    go_wp2_with (first
      | (go_at_call 42; (refine c1.mono ?_); rintro e w1 ⟨ca, cc, da, dc, rfl, oc', oe', hb'⟩; (have rB : Hid (RelB w _ l la lc w1.heap.size ca cc da dc) := relB_new hz.out oc' oe' (bthen hbH.out hb')); clear oc' oe' hb' c1)
      | (refine wpList_store_new rfl 78 _ _ rfl rfl _ _ rfl (by kernel_rfl) rfl (one3 _ _ _ _ _ _ _ _ _) ?_))
    go_ret2
    exact ⟨rfl, rB.out.b⟩
  · have hijd : ((i : Int) != (j : Int)) = true := by rw [bne_iff_ne]; omega
    have hijd2 : (i == j) = false := by simpa using hij
    rw [hijd2] at hR2
    clear hijd2
    cases P with
    | true =>
      have hR3 : R = false := by rw [hR2.out]; simp
      subst hR3
      clear hR2 cQ
      go_enter Try.func23, Try.ntmps23
      go_wp2_with (first
        | (go_at_call 42; (refine c1.mono ?_); rintro e w1 ⟨ca, cc, da, dc, rfl, oc', oe', hb'⟩; (have rB : Hid (RelB w _ l la lc w1.heap.size ca cc da dc) := relB_new hz.out oc' oe' (bthen hbH.out hb')); clear oc' oe' hb' c1)
        | (refine wpList_store_new rfl 78 _ _ rfl rfl _ _ rfl (by kernel_rfl) rfl (one3 _ _ _ _ _ _ _ _ _) ?_)
        | (refine wpList_load_g rfl 78 _ rfl w1.heap.size 0 rfl _ _ rB.out.range huR.out rfl (infoR3 _ _ _ _ _ _ _ _ _) ?_)
        | (go_at_call 50; (refine (cP _ _ _ _ _ _ rB).mono ?_); rintro e w2 ⟨rfl, hb2⟩; (have rB : Hid (RelB w w2 l la lc w1.heap.size ca cc da dc) := rB.out.later hb2); clear hb2 cP))
      go_ret2
      exact ⟨rfl, rB.out.b⟩
    | false =>
      have hR3 : R = !Q := by rw [hR2.out]; simp
      subst hR3
      clear hR2
      go_enter Try.func23, Try.ntmps23
      go_wp2_with (first
        | (go_at_call 42; (refine c1.mono ?_); rintro e w1 ⟨ca, cc, da, dc, rfl, oc', oe', hb'⟩; (have rB : Hid (RelB w _ l la lc w1.heap.size ca cc da dc) := relB_new hz.out oc' oe' (bthen hbH.out hb')); clear oc' oe' hb' c1)
        | (refine wpList_store_new rfl 78 _ _ rfl rfl _ _ rfl (by kernel_rfl) rfl (one3 _ _ _ _ _ _ _ _ _) ?_)
        | (refine wpList_load_g rfl 78 _ rfl w1.heap.size 0 rfl _ _ rB.out.range huR.out rfl (infoR3 _ _ _ _ _ _ _ _ _) ?_)
        | (go_at_call 50; (refine (cP _ _ _ _ _ _ rB).mono ?_); rintro e w2 ⟨rfl, hb2⟩; (have rB : Hid (RelB w w2 l la lc w1.heap.size ca cc da dc) := rB.out.later hb2); clear hb2 cP)
        | (go_at_call 50; (refine (cQ _ _ _ _ _ _ rB).mono ?_); rintro e w3 ⟨rfl, hb3⟩; (have rB : Hid (RelB w w3 l la lc w1.heap.size ca cc da dc) := rB.out.later hb3); clear hb3 cQ))
      go_ret2
      exact ⟨rfl, rB.out.b⟩
end Go.Proofs.Ytkhhkgfaakgdfaa.pg
