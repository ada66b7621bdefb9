/- Clocks and Before of package order. -/
import Derived.Test.YtkhhkgfaakgdfaaM23
namespace Go.Proofs.Ytkhhkgfaakgdfaa.pg
open Go.ChangeShapes Go.WideShapes Go.ChangeAt Go.RowKit Go.Shelf
set_option linter.unusedVariables false
set_option linter.unusedSimpArgs false
set_option maxRecDepth 100000
attribute [local go_sem ↓] Go.wp_at_zero Go.wp_at_succ
abbrev relZ : Value := relV none 0 0 none 0 0 none 0 0
set_option maxHeartbeats 1000000 in
theorem look_bad (l : List Ev) (la : Option Addr) (lc : Nat) (ps : Value) (w : World) (hl : Rows w 26 la lc (l.map Ev.cells)) (c : Int) (hc : checkP l c) (h0 : c = 2 ∨ c = 7) :
    Calls Try.prog 42 #[.slice la l.length lc, ps] w fun e w' => e = .returned (.tuple #[relZ, .int .i64 c]) ∧ Below w.heap.size w w' := by
  have c1 : ∀ wx, Below w.heap.size w wx → Calls Try.prog 35 #[.slice la l.length lc] wx fun e w' => e = .returned (.int .i64 c) ∧ Below wx.heap.size wx w' := fun wx hb => check_any l la lc wx (hl.later hb) c hc
  have hlI := rows_len hl
  have bx := boxed w (.cells #[.slice none 0 0, .slice none 0 0, .slice none 0 0] 78)
  have hn := heap_alloc_new w (.cells #[.slice none 0 0, .slice none 0 0, .slice none 0 0] 78)
  clear hl hc
  rcases h0 with rfl | rfl
  all_goals
    go_enter Try.func42, Try.ntmps42
    go_wp2_with (first
      | (go_at_call 35; (with_reducible refine (c1 _ bx).mono ?_); rintro e w1 ⟨rfl, hb1⟩; (have hn1 : Hid (w1.heap[w.heap.size]? = some (.cells #[.slice none 0 0, .slice none 0 0, .slice none 0 0] 78)) := (hb1.block _ (by rw [World.size_alloc]; omega)).trans hn); (have hbw1 : Hid (Below w.heap.size w w1) := bthen bx hb1); clear hb1 c1 bx hn)
      | (refine wpList_store_row rfl 78 _ _ rfl w.heap.size _ rfl rfl _ _ hn1.out infoR rfl (one3 _ _ _ _ _ _ _ _ _) ?_))
    exact bodyPost_ret (results_rel Try.results42 _ _ w.heap.size #[.slice none 0 0, .slice none 0 0, .slice none 0 0] _ rfl rfl rfl (setRow_heap _ w.heap.size _ _ _ _ hn1.out)) rfl ⟨rfl, below_setRow hbw1.out (Nat.le_refl _) _⟩
/-- Whether a place happens before another one, by the clocks. -/
def befK (C : List Ck) (l : List Ev) (i j : Nat) : Bool := decide (i < j) && decide ((C.getD i zeroK).of (evf l i).go.toNat ≤ (C.getD j zeroK).of (evf l i).go.toNat)
set_option maxHeartbeats 1000000 in
theorem rbefore_any (l : List Ev) (la : Option Addr) (lc : Nat) (C : List Ck) (ca : Option Addr) (cc lo : Nat) (da : Option Addr) (dl dc : Nat) (i j : Nat) (w : World) (hl : Rows w 26 la lc (l.map Ev.cells)) (hC : OwnL w lo 40 6 ca cc (C.map Ck.cells)) (hlen : l.length ≤ 256) (hrt : ∀ x ∈ l, rightP x) (hCl : C.length = l.length) (hi : i < l.length) (hj : j < l.length) (R : Bool) (hR : Hid (R = befK C l i j)) :
    Calls Try.prog 50 #[relV la l.length lc ca C.length cc da dl dc, .int .i64 (i : Int), .int .i64 (j : Int)] w fun e w' => e = .returned (.bool R) ∧ Below w.heap.size w w' := by
  have bx := boxed w (.cells #[.slice la l.length lc, .slice ca C.length cc, .slice da dl dc] 78)
  have hn := heap_alloc_new w (.cells #[.slice la l.length lc, .slice ca C.length cc, .slice da dl dc] 78)
  have hCi : C[i]? = some (C.getD i zeroK) := by rw [List.getD_eq_getElem?_getD, List.getElem?_eq_getElem (by omega)]; rfl
  have hCj : C[j]? = some (C.getD j zeroK) := by rw [List.getD_eq_getElem?_getD, List.getElem?_eq_getElem (by omega)]; rfl
  obtain ⟨g0, g6⟩ := (hrt _ (List.mem_of_getElem? (evf_at hi))).1
  obtain ⟨eb, eo, e1, e2, e3⟩ := ev_row hl i _ (evf_at hi)
  obtain ⟨xb, xo, x1, x2, x3⟩ := ck_row hC i _ hCi
  obtain ⟨yb, yo, y1, y2, y3⟩ := ck_row hC j _ hCj
  have hgN : (((evf l i).go.toNat : Nat) : Int) = (evf l i).go := Int.toNat_of_nonneg g0
  have hg : (evf l i).go.toNat < 6 := by omega
  have m1 := ck_mid xb xo _ hg
  have m2 := ck_mid yb yo _ hg
  rw [hgN] at m1 m2
  go_enter Try.func50, Try.ntmps50
  have k1 : Hid (_) := bx
  generalize hW : w.alloc (.cells #[.slice la l.length lc, .slice ca C.length cc, .slice da dl dc] 78) = W at *
  have c0 : W.cell? ⟨w.heap.size, 0, none⟩ = some (.slice la l.length lc) := cell_of hn rfl
  have c1 : W.cell? ⟨w.heap.size, 1, none⟩ = some (.slice ca C.length cc) := cell_of hn rfl
  have c2 : W.cell? ⟨eb, eo, none⟩ = some (.int .i64 (evf l i).go) := (bx.cell (p := ⟨eb, eo, none⟩) e2).trans (e3 0 _ rfl)
  have c3 : W.cell? ⟨xb, xo + (evf l i).go.toNat, none⟩ = some (.int .i64 ((C.getD i zeroK).of (evf l i).go.toNat)) := (bx.cell (p := ⟨xb, xo + (evf l i).go.toNat, none⟩) (blk_lt hC xb x2).2).trans (x3 _ _ (ck_of hg))
  have c4 : W.cell? ⟨yb, yo + (evf l i).go.toNat, none⟩ = some (.int .i64 ((C.getD j zeroK).of (evf l i).go.toNat)) := (bx.cell (p := ⟨yb, yo + (evf l i).go.toNat, none⟩) (blk_lt hC yb y2).2).trans (y3 _ _ (ck_of hg))
  unfold befK at hR
  clear hCi hCj hn bx hl hC hrt hCl e3 x3 y3 e2 x2 y2 hgN hg g0 g6
  generalize (C.getD i zeroK).of (evf l i).go.toNat = p at *
  generalize (C.getD j zeroK).of (evf l i).go.toNat = q at *
  generalize (evf l i).go.toNat = gg at *
  generalize (evf l i).go = g at *
  by_cases hij : i < j
  · have hijI : (i : Int) < j := by omega
    have hR2 : Hid (R = decide (p ≤ q)) := by show _ = _; rw [hR.out]; simp [hij]
    clear hR
    by_cases hpq : p ≤ q
    · have hR3 : R = true := by rw [hR2.out]; simp [hpq]
      subst hR3
      clear hR2
      go_wp2_with fail
      go_quiet (fail)
      go_wp2
      go_ret
      exact ⟨rfl, below_drewN k1.out _⟩
    · have hR3 : R = false := by rw [hR2.out]; simp [hpq]
      have hd : decide (p ≤ q) = false := by simpa using hpq
      subst hR3
      clear hR2 hpq
      go_wp2_with fail
      go_quiet (fail)
      go_wp2
      go_ret
      exact ⟨rfl, below_drewN k1.out _⟩
  · have hijI : ¬ (i : Int) < j := by omega
    have hR2 : R = false := by rw [hR.out]; simp [hij]
    have hd : decide ((i : Int) < j) = false := by simpa using hijI
    subst hR2
    clear hR hijI
    go_wp2_with fail
    go_quiet (fail)
    go_wp2
    go_ret
    exact ⟨rfl, below_drewN k1.out _⟩
end Go.Proofs.Ytkhhkgfaakgdfaa.pg
/- Clocks and Before of package order, whole. -/
namespace Go.Proofs.Ytkhhkgfaakgdfaa.pg
open Go.ChangeShapes Go.WideShapes Go.ChangeAt Go.RowKit Go.Shelf
set_option linter.unusedVariables false
set_option linter.unusedSimpArgs false
set_option maxRecDepth 100000
attribute [local go_sem ↓] Go.wp_at_zero Go.wp_at_succ
theorem rows_nil1 (w : World) : Rows w 1 none 0 (([] : List Int).map chCells) := ⟨by simp, by omega, fun _ => ⟨rfl, rfl⟩, .inl rfl⟩
theorem infoR3 (ea : Option Addr) (en ec : Nat) (ca : Option Addr) (cn cc : Nat) (da : Option Addr) (dl dc : Nat) : (Try.prog.info? 78).map (·.size) = some ([.slice ea en ec, .slice ca cn cc, .slice da dl dc] : List Value).length := infoR
set_option maxHeartbeats 1000000 in
theorem clocks_ok (l : List Ev) (la : Option Addr) (lc : Nat) (w : World) (hl : Rows w 26 la lc (l.map Ev.cells)) (hlen : l.length ≤ 256) (hrt : ∀ x ∈ l, rightP x) :
    Calls Try.prog 11 #[.slice la l.length lc] w fun e w' => ∃ ca cc, e = .returned (.tuple #[.slice ca l.length cc, .int .i64 0]) ∧ OwnL w' w.heap.size 40 6 ca cc ((rel (evf l) l.length).1.map Ck.cells) ∧ Below w.heap.size w w' := by
  have c1 : Calls Try.prog 42 #[.slice la l.length lc, .slice none 0 0] w (LookPost l la lc w) := look_any l la lc [] none 0 w hl (rows_nil1 w) hlen hrt (by simp) (by simp)
  clear hl hrt
  go_enter Try.func11, Try.ntmps11
  go_wp2_with (first
    | (go_at_call 42; (with_reducible refine c1.mono ?_); rintro e w1 ⟨ca, cc, da, dc, rfl, ow', _, hb'⟩; (have ow : Hid (OwnL w1 w.heap.size 40 6 ca cc ((rel (evf l) l.length).1.map Ck.cells)) := ow'); (have hb : Hid (Below w.heap.size w w1) := hb'); (have hx : (w1.alloc (.cells #[.slice la l.length lc, .slice ca l.length cc, .slice da (rel (evf l) l.length).2.length dc] 78)).cell? ⟨w1.heap.size, 1, none⟩ = some (.slice ca l.length cc) := cell_of (heap_alloc_new _ _) rfl); clear ow' hb' c1)
    | (refine wpList_store_new rfl 78 _ _ rfl rfl _ _ rfl (by kernel_rfl) rfl (one3 _ _ _ _ _ _ _ _ _) ?_))
  go_ret2
  exact ⟨ca, cc, rfl, own_keep ow.out fun b hb' => (boxed w1 _).block b (blk_lt ow.out b hb').2, bthen hb.out (boxed _ _)⟩
set_option maxHeartbeats 1000000 in
theorem clocks_bad (l : List Ev) (la : Option Addr) (lc : Nat) (w : World) (hl : Rows w 26 la lc (l.map Ev.cells)) (c : Int) (hc : checkP l c) (h0 : c = 2 ∨ c = 7) :
    Calls Try.prog 11 #[.slice la l.length lc] w fun e w' => e = .returned (.tuple #[.slice none 0 0, .int .i64 c]) ∧ Below w.heap.size w w' := by
  have c1 := look_bad l la lc (.slice none 0 0) w hl c hc h0
  have hx : ∀ w1 : World, (w1.alloc (.cells #[.slice none 0 0, .slice none 0 0, .slice none 0 0] 78)).cell? ⟨w1.heap.size, 1, none⟩ = some (.slice none 0 0) := fun w1 => cell_of (heap_alloc_new _ _) rfl
  clear hl hc h0
  go_enter Try.func11, Try.ntmps11
  go_wp2_with (first
    | (go_at_call 42; (with_reducible refine c1.mono ?_); rintro e w1 ⟨rfl, hb'⟩; (have hb : Hid (Below w.heap.size w w1) := hb'); (have hx1 := hx w1); clear hb' c1)
    | (refine wpList_store_new rfl 78 _ _ rfl rfl _ _ rfl (by kernel_rfl) rfl (one3 _ _ _ _ _ _ _ _ _) ?_))
  go_ret2
  exact ⟨rfl, bthen hb.out (boxed _ _)⟩
set_option maxHeartbeats 1000000 in
theorem before_ok (l : List Ev) (la : Option Addr) (lc : Nat) (i j : Nat) (w : World) (hl : Rows w 26 la lc (l.map Ev.cells)) (hlen : l.length ≤ 256) (hrt : ∀ x ∈ l, rightP x) (hi : i < l.length) (hj : j < l.length) (R : Bool) (hR : Hid (R = befK (rel (evf l) l.length).1 l i j)) :
    Calls Try.prog 22 #[.slice la l.length lc, .int .i64 (i : Int), .int .i64 (j : Int)] w fun e w' => e = .returned (.tuple #[.bool R, .int .i64 0]) ∧ Below w.heap.size w w' := by
  have bx := boxed w (.cells #[.int .i64 (i : Int), .int .i64 (j : Int)] 3)
  have hn := heap_alloc_new w (.cells #[.int .i64 (i : Int), .int .i64 (j : Int)] 3)
  have hp : Rows (w.alloc (.cells #[.int .i64 (i : Int), .int .i64 (j : Int)] 3)) 1 (some ⟨w.heap.size, 0, none⟩) 2 (([(i : Int), (j : Int)]).map chCells) := by
    refine ⟨by simp, by omega, by simp, .inr ⟨_, _, rfl, by rw [World.size_alloc]; omega, fun k row hk => ?_⟩⟩
    match k with
    | 0 => simp [chCells] at hk; subst hk; refine ⟨rfl, fun q u hq => ?_⟩; match q with
      | 0 => simp at hq; subst hq; exact cell_of hn rfl
      | q + 1 => simp at hq
    | 1 => simp [chCells] at hk; subst hk; refine ⟨rfl, fun q u hq => ?_⟩; match q with
      | 0 => simp at hq; subst hq; exact cell_of hn rfl
      | q + 1 => simp at hq
    | k + 2 => simp at hk
  have c1 : Calls Try.prog 42 #[.slice la l.length lc, .slice (some ⟨w.heap.size, 0, none⟩) 2 2] (w.alloc (.cells #[.int .i64 (i : Int), .int .i64 (j : Int)] 3)) (LookPost l la lc (w.alloc (.cells #[.int .i64 (i : Int), .int .i64 (j : Int)] 3))) := look_any l la lc [(i : Int), (j : Int)] (some ⟨w.heap.size, 0, none⟩) 2 _ (hl.later bx) hp hlen hrt (by simp) (by intro p hp; simp at hp; rcases hp with rfl | rfl <;> omega)
  have hlH : Hid (Rows w 26 la lc (l.map Ev.cells)) := hl
  have hrtH : Hid (∀ x ∈ l, rightP x) := hrt
  have huR : Hid (Try.prog.underlying 78 = _) := Try.underlying78
  clear hp hl hrt hn
  go_enter Try.func22, Try.ntmps22
  generalize hW : w.alloc (.cells #[.int .i64 (i : Int), .int .i64 (j : Int)] 3) = W at *
  go_wp2_with (first
    | (go_at_call 42; (with_reducible refine c1.mono ?_); rintro e w1 ⟨ca, cc, da, dc, rfl, ow', _, hb'⟩; (have ow : Hid (OwnL (w1.alloc (.cells #[.slice la l.length lc, .slice ca l.length cc, .slice da (rel (evf l) l.length).2.length dc] 78)) W.heap.size 40 6 ca cc ((rel (evf l) l.length).1.map Ck.cells)) := own_keep ow' fun b hb' => (boxed w1 _).block b (blk_lt ow' b hb').2); (have hb : Hid (Below w.heap.size w (w1.alloc (.cells #[.slice la l.length lc, .slice ca l.length cc, .slice da (rel (evf l) l.length).2.length dc] 78))) := bthen bx (bthen hb' (boxed _ _))); (have hx : Hid ((w1.alloc (.cells #[.slice la l.length lc, .slice ca l.length cc, .slice da (rel (evf l) l.length).2.length dc] 78)).rangeAt w1.heap.size 0 [.slice la l.length lc, .slice ca l.length cc, .slice da (rel (evf l) l.length).2.length dc]) := fun q v hv => cell_of (heap_alloc_new _ _) (by rw [Nat.zero_add]; simpa using hv)); clear ow' hb' c1)
    | (refine wpList_store_new rfl 78 _ _ rfl rfl _ _ rfl (by kernel_rfl) rfl (one3 _ _ _ _ _ _ _ _ _) ?_)
    | (refine wpList_load_g rfl 78 _ rfl w1.heap.size 0 rfl _ _ hx.out huR.out rfl (infoR3 _ _ _ _ _ _ _ _ _) ?_)
    | (go_at_call 50; (have c2 := rbefore_any l la lc _ ca cc _ da (rel (evf l) l.length).2.length dc i j _ (hlH.out.later hb.out) ow.out hlen hrtH.out (rel_len _ _) hi hj R hR); (rw [rel_len] at c2); (refine c2.mono ?_); rintro e w2 ⟨rfl, hb2⟩; (have hb3 : Hid (Below w.heap.size w w2) := bthen hb.out hb2); clear hb2))
  go_ret2
  exact ⟨rfl, hb3.out⟩
end Go.Proofs.Ytkhhkgfaakgdfaa.pg
