/- Apart, Past and Lasts of package order. -/
import Derived.Test.YtkhhkgfaakgdfaaM31
import Derived.Test.YtkhhkgfaakgdfaaM32
namespace Go.Proofs.Ytkhhkgfaakgdfaa.pg
open Go.ChangeShapes Go.WideShapes Go.ChangeAt Go.RowKit Go.Shelf
set_option linter.unusedVariables false
set_option linter.unusedSimpArgs false
set_option maxRecDepth 100000
attribute [local go_sem ↓] Go.wp_at_zero Go.wp_at_succ
/-- By the clocks, or by what depends on what: the same. -/
theorem bef_is {l : List Ev} (hrt : ∀ x ∈ l, rightP x) {B : Nat → Nat → Bool} (hB : Tells (dpf l) B) {i j : Nat} (hi : i < l.length) (hj : j < l.length) : befK (rel (evf l) l.length).1 l i j = B i j := by
  have xi := rel_is hrt hB l.length (Nat.le_refl _) i _ (rel_get _ _ i hi)
  have xj := rel_is hrt hB l.length (Nat.le_refl _) j _ (rel_get _ _ j hj)
  have hg : gof l i < 6 := gof_lt hrt hi
  unfold befK
  by_cases hij : i < j
  · have h1 := before_iff hB (ord_ok hrt) hij hj
    have a := xi (gof l i) hg
    have b := xj (gof l i) hg
    rw [Bool.eq_iff_iff, ← h1]
    unfold gof at a b ⊢
    simp only [hij, decide_true, Bool.true_and, decide_eq_true_eq]
    rw [a, b]
    omega
  · have : B i j = false := by
      rw [Bool.eq_false_iff]
      intro q
      exact hij ((hB i j).mp q).lt
    rw [this]
    simp [hij]
theorem looks_two (l : List Ev) (la : Option Addr) (lc : Nat) (i j : Nat) (w : World) (hl : Rows w 26 la lc (l.map Ev.cells)) (hlen : l.length ≤ 256) (hrt : ∀ x ∈ l, rightP x) (hi : i < l.length) (hj : j < l.length) :
    Calls Try.prog 42 #[.slice la l.length lc, .slice (some ⟨w.heap.size, 0, none⟩) 2 2] (w.alloc (.cells #[.int .i64 (i : Int), .int .i64 (j : Int)] 3)) (LookPost l la lc (w.alloc (.cells #[.int .i64 (i : Int), .int .i64 (j : Int)] 3))) :=
  look_any l la lc [(i : Int), (j : Int)] (some ⟨w.heap.size, 0, none⟩) 2 _ (hl.later (boxed _ _)) (rows_ij w i j) hlen hrt (by simp) (by intro p hp; simp at hp; rcases hp with rfl | rfl <;> omega)
theorem looks_one (l : List Ev) (la : Option Addr) (lc : Nat) (i : Nat) (w : World) (hl : Rows w 26 la lc (l.map Ev.cells)) (hlen : l.length ≤ 256) (hrt : ∀ x ∈ l, rightP x) (hi : i < l.length) :
    Calls Try.prog 42 #[.slice la l.length lc, .slice (some ⟨w.heap.size, 0, none⟩) 1 1] (w.alloc (.cells #[.int .i64 (i : Int)] 3)) (LookPost l la lc (w.alloc (.cells #[.int .i64 (i : Int)] 3))) :=
  look_any l la lc [(i : Int)] (some ⟨w.heap.size, 0, none⟩) 1 _ (hl.later (boxed _ _)) (rows_one1 w i) hlen hrt (by simp) (by intro p hp; simp at hp; subst hp; omega)
/-- The relation in its box, beyond a world. -/
structure RelB (w W : World) (l : List Ev) (la : Option Addr) (lc Rr : Nat) (ca : Option Addr) (cc : Nat) (da : Option Addr) (dc : Nat) : Prop where
  r : W.heap[Rr]? = some (.cells #[.slice la l.length lc, .slice ca l.length cc, .slice da (rel (evf l) l.length).2.length dc] 78)
  c : OwnL W w.heap.size 40 6 ca cc ((rel (evf l) l.length).1.map Ck.cells)
  e : OwnL W w.heap.size 41 2 da dc ((rel (evf l) l.length).2.map edg)
  b : Below w.heap.size w W
theorem RelB.later {w W W' : World} {l : List Ev} {la : Option Addr} {lc Rr : Nat} {ca : Option Addr} {cc : Nat} {da : Option Addr} {dc : Nat} (h : RelB w W l la lc Rr ca cc da dc) (hb : Below W.heap.size W W') : RelB w W' l la lc Rr ca cc da dc :=
  ⟨(hb.block _ (Array.getElem?_eq_some_iff.mp h.r).1).trans h.r, own_keep h.c fun b hb' => hb.block b (blk_lt h.c b hb').2, own_keep h.e fun b hb' => hb.block b (blk_lt h.e b hb').2, bthen h.b hb⟩
theorem RelB.range {w W : World} {l : List Ev} {la : Option Addr} {lc Rr : Nat} {ca : Option Addr} {cc : Nat} {da : Option Addr} {dc : Nat} (h : RelB w W l la lc Rr ca cc da dc) : W.rangeAt Rr 0 [.slice la l.length lc, .slice ca l.length cc, .slice da (rel (evf l) l.length).2.length dc] := fun q v hv => cell_of h.r (by rw [Nat.zero_add]; simpa using hv)
theorem relB_new {w w1 : World} {l : List Ev} {la : Option Addr} {lc lo : Nat} {ca : Option Addr} {cc : Nat} {da : Option Addr} {dc : Nat} (hlo : w.heap.size ≤ lo) (h1 : OwnL w1 lo 40 6 ca cc ((rel (evf l) l.length).1.map Ck.cells)) (h2 : OwnL w1 lo 41 2 da dc ((rel (evf l) l.length).2.map edg)) (hb : Below w.heap.size w w1) :
    RelB w (w1.alloc (.cells #[.slice la l.length lc, .slice ca l.length cc, .slice da (rel (evf l) l.length).2.length dc] 78)) l la lc w1.heap.size ca cc da dc :=
  ⟨heap_alloc_new _ _, own_mono_q (own_keep h1 fun b hb' => (boxed w1 _).block b (blk_lt h1 b hb').2) hlo, own_mono_q (own_keep h2 fun b hb' => (boxed w1 _).block b (blk_lt h2 b hb').2) hlo, bthen hb (boxed _ _)⟩
theorem RelB.before {w W : World} {l : List Ev} {la : Option Addr} {lc Rr : Nat} {ca : Option Addr} {cc : Nat} {da : Option Addr} {dc : Nat} (h : RelB w W l la lc Rr ca cc da dc) (hl : Rows w 26 la lc (l.map Ev.cells)) (hlen : l.length ≤ 256) (hrt : ∀ x ∈ l, rightP x) {i j : Nat} (hi : i < l.length) (hj : j < l.length) (R : Bool) (hR : Hid (R = befK (rel (evf l) l.length).1 l i j)) :
    Calls Try.prog 50 #[relV la l.length lc ca l.length cc da (rel (evf l) l.length).2.length dc, .int .i64 (i : Int), .int .i64 (j : Int)] W fun e w' => e = .returned (.bool R) ∧ Below W.heap.size W w' := by
  have c2 := rbefore_any l la lc _ ca cc _ da (rel (evf l) l.length).2.length dc i j _ (hl.later h.b) h.c hlen hrt (rel_len _ _) hi hj R hR
  rwa [rel_len] at c2
set_option maxHeartbeats 2000000 in
theorem apart_ok (l : List Ev) (la : Option Addr) (lc : Nat) (i j : Nat) (w : World) (hl : Rows w 26 la lc (l.map Ev.cells)) (hlen : l.length ≤ 256) (hrt : ∀ x ∈ l, rightP x) (hi : i < l.length) (hj : j < l.length) (R : Bool) (hR : Hid (R = (!(i == j) && (!befK (rel (evf l) l.length).1 l i j && !befK (rel (evf l) l.length).1 l j i)))) :
    Calls Try.prog 23 #[.slice la l.length lc, .int .i64 (i : Int), .int .i64 (j : Int)] w fun e w' => e = .returned (.tuple #[.bool R, .int .i64 0]) ∧ Below w.heap.size w w' := by
  have bx := boxed w (.cells #[.int .i64 (i : Int), .int .i64 (j : Int)] 3)
  have c1 := looks_two l la lc i j w hl hlen hrt hi hj
  have hlH : Hid (Rows w 26 la lc (l.map Ev.cells)) := hl
  have hrtH : Hid (∀ x ∈ l, rightP x) := hrt
  obtain ⟨P, hP⟩ : ∃ P, Hid (P = befK (rel (evf l) l.length).1 l i j) := ⟨_, rfl⟩
  obtain ⟨Q, hQ⟩ : ∃ Q, Hid (Q = befK (rel (evf l) l.length).1 l j i) := ⟨_, rfl⟩
  have hR2 : Hid (R = (!(i == j) && (!P && !Q))) := by show _ = _; rw [hR.out, hP.out, hQ.out]
  have huR : Hid (Try.prog.underlying 78 = _) := Try.underlying78
  have cP : ∀ W ca cc da dc Rr, Hid (RelB w W l la lc Rr ca cc da dc) → Calls Try.prog 50 #[relV la l.length lc ca l.length cc da (rel (evf l) l.length).2.length dc, .int .i64 (i : Int), .int .i64 (j : Int)] W fun e w' => e = .returned (.bool P) ∧ Below W.heap.size W w' := fun W ca cc da dc Rr h => h.out.before hlH.out hlen hrtH.out hi hj P hP
  have cQ : ∀ W ca cc da dc Rr, Hid (RelB w W l la lc Rr ca cc da dc) → Calls Try.prog 50 #[relV la l.length lc ca l.length cc da (rel (evf l) l.length).2.length dc, .int .i64 (j : Int), .int .i64 (i : Int)] W fun e w' => e = .returned (.bool Q) ∧ Below W.heap.size W w' := fun W ca cc da dc Rr h => h.out.before hlH.out hlen hrtH.out hj hi Q hQ
  have hz : Hid (w.heap.size ≤ (w.alloc (.cells #[.int .i64 (i : Int), .int .i64 (j : Int)] 3)).heap.size) := bx.size
  have hbH : Hid (Below w.heap.size w (w.alloc (.cells #[.int .i64 (i : Int), .int .i64 (j : Int)] 3))) := bx
  clear hl hrt hR hP hQ bx
  by_cases hij : i = j
  · have hR3 : R = false := by rw [hR2.out, hij]; simp
    subst hR3
    subst hij
    clear hR2 cP cQ
    go_enter Try.func23, Try.ntmps23
    go_wp2_with (first
      | (go_at_call 42; (refine c1.mono ?_); rintro e w1 ⟨ca, cc, da, dc, rfl, oc', oe', hb'⟩; (have rB : Hid (RelB w _ l la lc w1.heap.size ca cc da dc) := relB_new hz.out oc' oe' (bthen hbH.out hb')); clear oc' oe' hb' c1)
      | (refine wpList_store_new rfl 78 _ _ rfl rfl _ _ rfl (by kernel_rfl) rfl (one3 _ _ _ _ _ _ _ _ _) ?_))
    go_ret2
    exact ⟨rfl, rB.out.b⟩
  · have hijd : ((i : Int) != (j : Int)) = true := by rw [bne_iff_ne]; omega
    have hijd2 : (i == j) = false := by simpa using hij
    rw [hijd2] at hR2
    clear hijd2
    cases P with
    | true =>
      have hR3 : R = false := by rw [hR2.out]; simp
      subst hR3
      clear hR2 cQ
      go_enter Try.func23, Try.ntmps23
      go_wp2_with (first
        | (go_at_call 42; (refine c1.mono ?_); rintro e w1 ⟨ca, cc, da, dc, rfl, oc', oe', hb'⟩; (have rB : Hid (RelB w _ l la lc w1.heap.size ca cc da dc) := relB_new hz.out oc' oe' (bthen hbH.out hb')); clear oc' oe' hb' c1)
        | (refine wpList_store_new rfl 78 _ _ rfl rfl _ _ rfl (by kernel_rfl) rfl (one3 _ _ _ _ _ _ _ _ _) ?_)
        | (refine wpList_load_g rfl 78 _ rfl w1.heap.size 0 rfl _ _ rB.out.range huR.out rfl (infoR3 _ _ _ _ _ _ _ _ _) ?_)
        | (go_at_call 50; (refine (cP _ _ _ _ _ _ rB).mono ?_); rintro e w2 ⟨rfl, hb2⟩; (have rB : Hid (RelB w w2 l la lc w1.heap.size ca cc da dc) := rB.out.later hb2); clear hb2 cP))
      go_ret2
      exact ⟨rfl, rB.out.b⟩
    | false =>
      have hR3 : R = !Q := by rw [hR2.out]; simp
      subst hR3
      clear hR2
      go_enter Try.func23, Try.ntmps23
      go_wp2_with (first
        | (go_at_call 42; (refine c1.mono ?_); rintro e w1 ⟨ca, cc, da, dc, rfl, oc', oe', hb'⟩; (have rB : Hid (RelB w _ l la lc w1.heap.size ca cc da dc) := relB_new hz.out oc' oe' (bthen hbH.out hb')); clear oc' oe' hb' c1)
        | (refine wpList_store_new rfl 78 _ _ rfl rfl _ _ rfl (by kernel_rfl) rfl (one3 _ _ _ _ _ _ _ _ _) ?_)
        | (refine wpList_load_g rfl 78 _ rfl w1.heap.size 0 rfl _ _ rB.out.range huR.out rfl (infoR3 _ _ _ _ _ _ _ _ _) ?_)
        | (go_at_call 50; (refine (cP _ _ _ _ _ _ rB).mono ?_); rintro e w2 ⟨rfl, hb2⟩; (have rB : Hid (RelB w w2 l la lc w1.heap.size ca cc da dc) := rB.out.later hb2); clear hb2 cP)
        | (go_at_call 50; (refine (cQ _ _ _ _ _ _ rB).mono ?_); rintro e w3 ⟨rfl, hb3⟩; (have rB : Hid (RelB w w3 l la lc w1.heap.size ca cc da dc) := rB.out.later hb3); clear hb3 cQ))
      go_ret2
      exact ⟨rfl, rB.out.b⟩
end Go.Proofs.Ytkhhkgfaakgdfaa.pg
/- Past and Lasts of package order. -/
namespace Go.Proofs.Ytkhhkgfaakgdfaa.pg
open Go.ChangeShapes Go.WideShapes Go.ChangeAt Go.RowKit Go.Shelf
set_option linter.unusedVariables false
set_option linter.unusedSimpArgs false
set_option maxRecDepth 100000
attribute [local go_sem ↓] Go.wp_at_zero Go.wp_at_succ
/-- A set in a block of its own, beyond a world. -/
structure SetB (W1 W : World) (P : Nat) (f : Nat → Bool) : Prop where
  s : W.heap[P]? = some (.cells (boolRow 256 f) 85)
  b : Below W1.heap.size W1 W
  l : W1.heap.size ≤ P
theorem SetB.later {W1 W W' : World} {P : Nat} {f : Nat → Bool} (h : SetB W1 W P f) (hb : Below W.heap.size W W') : SetB W1 W' P f :=
  ⟨(hb.block _ (Array.getElem?_eq_some_iff.mp h.s).1).trans h.s, bthen h.b hb, h.l⟩
theorem SetB.put {W1 W : World} {P : Nat} {f : Nat → Bool} (h : SetB W1 W P f) (k : Nat) (v : Bool) : SetB W1 (W.setCell ⟨P, k, none⟩ (.bool v)) P (fun b => if b = k then v else f b) := by
  rw [setCell_eq_setRow W P k _ _ _ _ h.s, boolRow_set]
  exact ⟨setRow_heap W P _ _ _ _ h.s, below_setRow h.b h.l _, h.l⟩
theorem SetB.cell {W1 W : World} {P : Nat} {f : Nat → Bool} (h : SetB W1 W P f) {k : Nat} (hk : k < 256) : W.cell? ⟨P, k, none⟩ = some (.bool (f k)) ∧ W.frozen? ⟨P, k, none⟩ = false :=
  ⟨cell_of h.s (boolRow_at hk), frozen_of_row _ _ _ _ _ h.s⟩
theorem SetB.cong {W1 W : World} {P : Nat} {f g : Nat → Bool} (h : SetB W1 W P f) (e : ∀ k, f k = g k) : SetB W1 W P g := by
  have : f = g := funext e
  rwa [← this]
theorem setB_new (W1 : World) : SetB W1 (W1.alloc (.cells (boolRow 256 fun _ => false) 85)) W1.heap.size (fun _ => false) := ⟨heap_alloc_new _ _, boxed _ _, Nat.le_refl _⟩
def fPast (l : List Ev) (i k a : Nat) : Bool := decide (a < k) && befK (rel (evf l) l.length).1 l a i
theorem fPast_more (l : List Ev) (i k a : Nat) : (if a = k then befK (rel (evf l) l.length).1 l k i else fPast l i k a) = fPast l i (k + 1) a := by
  unfold fPast
  by_cases h : a = k
  · subst h
    rw [if_pos rfl]
    have : decide (a < a + 1) = true := by simp
    rw [this, Bool.true_and]
  · rw [if_neg h]
    have : decide (a < k) = decide (a < k + 1) := by rw [decide_eq_decide]; omega
    rw [this]
set_option maxHeartbeats 2000000 in
theorem past_ok (l : List Ev) (la : Option Addr) (lc : Nat) (i : Nat) (w : World) (hl : Rows w 26 la lc (l.map Ev.cells)) (hlen : l.length ≤ 256) (hrt : ∀ x ∈ l, rightP x) (hi : i < l.length) :
    Calls Try.prog 24 #[.slice la l.length lc, .int .i64 (i : Int)] w fun e w' => ∃ va vc, e = .returned (.tuple #[.slice va (lst (fPast l i i) 256).length vc, .int .i64 0]) ∧ LsS w (lst (fPast l i i) 256) va vc w' := by
  have bx := boxed w (.cells #[.int .i64 (i : Int)] 3)
  have c1 := looks_one l la lc i w hl hlen hrt hi
  have hlH : Hid (Rows w 26 la lc (l.map Ev.cells)) := hl
  have hrtH : Hid (∀ x ∈ l, rightP x) := hrt
  have huR : Hid (Try.prog.underlying 78 = _) := Try.underlying78
  have huS : Hid (Try.prog.underlying 85 = _) := Try.underlying85
  have hz : Hid (w.heap.size ≤ (w.alloc (.cells #[.int .i64 (i : Int)] 3)).heap.size) := bx.size
  have hbH : Hid (Below w.heap.size w (w.alloc (.cells #[.int .i64 (i : Int)] 3))) := bx
  have hzS : Hid (∀ w, (zeroValue 85).run Try.prog w = .ok (.agg (boolRow 256 fun _ => false)) w) := zeroSt
  have cL : ∀ (f : Nat → Bool) wx, Calls Try.prog 46 #[.agg (boolRow 256 f)] wx fun e w' => ∃ va vc, e = .returned (.slice va (lst f 256).length vc) ∧ LsS wx (lst f 256) va vc w' := fun f wx => list_any f wx
  clear hl hrt bx
  go_enter Try.func24, Try.ntmps24
  go_wp2_with (first
    | (go_at_call 42; (refine c1.mono ?_); rintro e w1 ⟨ca, cc, da, dc, rfl, oc', oe', hb'⟩; (have rB : Hid (RelB w _ l la lc w1.heap.size ca cc da dc) := relB_new hz.out oc' oe' (bthen hbH.out hb')); clear oc' oe' hb' c1)
    | (refine wpList_store_new rfl 78 _ _ rfl rfl _ _ rfl (by kernel_rfl) rfl (one3 _ _ _ _ _ _ _ _ _) ?_)
    | (refine wpList_alloc_big rfl 85 rfl hzS.out ?_))
  obtain ⟨W1, hW1⟩ : ∃ W1, w1.alloc (.cells #[.slice la l.length lc, .slice ca l.length cc, .slice da (rel (evf l) l.length).2.length dc] 78) = W1 := ⟨_, rfl⟩
  have hs1 : w1.heap.size + 1 = W1.heap.size := by rw [← hW1, World.size_alloc]
  rw [hW1] at rB ⊢
  have sB0 : Hid (SetB W1 (W1.alloc (.cells (boolRow 256 fun _ => false) 85)) (w1.heap.size + 1) (fPast l i 0)) := by
    rw [hs1]
    exact (setB_new W1).cong fun k => by simp [fPast]
  generalize W1.alloc (.cells (boolRow 256 fun _ => false) 85) = W2 at *
  generalize w1.heap.size + 1 = P at *
  generalize w1.heap.size = Rr at *
  clear hW1 hs1 hz hbH
  have hiI : (i : Int) ≤ 256 := by omega
  go_loopw [21] (fun u wr => ∃ k : Nat, k ≤ i ∧ u = .int .i64 k ∧ Hid (SetB W1 wr P (fPast l i k))) (fun u _ => i - (intOf u).toNat)
  case atStart => exact ⟨0, Nat.zero_le _, rfl, sB0⟩
  case round =>
    obtain ⟨k, hk, rfl, hs⟩ := hrel
    clear sB0
    by_cases hlt : k < i
    · have hkI : (k : Int) < i := by omega
      obtain ⟨R, hR⟩ : ∃ R, Hid (R = befK (rel (evf l) l.length).1 l k i) := ⟨_, rfl⟩
      have rW : Hid (RelB w wr l la lc Rr ca cc da dc) := rB.out.later hs.out.b
      have cP : Calls Try.prog 50 #[relV la l.length lc ca l.length cc da (rel (evf l) l.length).2.length dc, .int .i64 (k : Int), .int .i64 (i : Int)] wr fun e w' => e = .returned (.bool R) ∧ Below wr.heap.size wr w' := rW.out.before hlH.out hlen hrtH.out (by omega) hi R hR
      have xP := ix_set P k (by omega)
      have nx : Hid (∀ W', Below wr.heap.size wr W' → SetB W1 (W'.setCell ⟨P, k, none⟩ (.bool R)) P (fPast l i (k + 1))) := fun W' hb => ((hs.out.later hb).put k R).cong fun a => by rw [← fPast_more, hR.out]
      have cl : Hid (∀ W', Below wr.heap.size wr W' → W'.cell? ⟨P, k, none⟩ = some (.bool (fPast l i k k)) ∧ W'.frozen? ⟨P, k, none⟩ = false) := fun W' hb => (hs.out.later hb).cell (by omega)
      clear hs hR
      go_wp2_with (first
        | (refine wpList_load_g rfl 78 _ rfl Rr 0 rfl _ _ rW.out.range huR.out rfl (infoR3 _ _ _ _ _ _ _ _ _) ?_)
        | (go_at_call 50; (refine cP.mono ?_); rintro e w2 ⟨rfl, hb2⟩; (have hcl : Hid (w2.cell? ⟨P, k, none⟩ = some (.bool (fPast l i k k)) ∧ w2.frozen? ⟨P, k, none⟩ = false) := cl.out w2 hb2); (have hnx : Hid (SetB W1 (w2.setCell ⟨P, k, none⟩ (.bool R)) P (fPast l i (k + 1))) := nx.out w2 hb2); clear hb2 cP cl nx)
        | (refine wpList_putb rfl 4 _ _ rfl ⟨P, k, none⟩ rfl R rfl (by kernel_rfl) _ hcl.out.1 hcl.out.2 ?_; intro W3 hW3; (have s3 : Hid (SetB W1 W3 P (fPast l i (k + 1))) := by (rw [hW3]; exact hnx.out)); clear hW3 hnx hcl))
      go_roundw
      case rel => exact ⟨k + 1, by omega, by go_num, s3⟩
      case measure => simp [intOf]; omega
    · have hk2 : k = i := by omega
      subst hk2
      go_wp2_with (first
        | (refine wpList_load_row rfl 85 _ rfl P rfl _ _ _ _ hs.out.s huS.out rfl (infoSt _) ?_)
        | (go_at_call 46; (refine (cL _ _).mono ?_); rintro e w5 ⟨va, vc, rfl, h5⟩; (have h5H : Hid (LsS wr (lst (fPast l k k) 256) va vc w5) := h5); clear h5))
      go_ret2
      exact ⟨va, vc, rfl, bthen rB.out.b (bthen hs.out.b h5H.out.be), own_mono_q h5H.out.ow (bthen rB.out.b hs.out.b).size⟩
end Go.Proofs.Ytkhhkgfaakgdfaa.pg
