/- Clocks and Before of package order. -/
import Derived.Test.YtbajfgllgfmnfaaLk3
namespace Go.Proofs.Ytbajfgllgfmnfaa.pg
open Go.ChangeShapes Go.WideShapes Go.ChangeAt Go.RowKit Go.Shelf
set_option linter.unusedVariables false
set_option linter.unusedSimpArgs false
set_option maxRecDepth 100000
attribute [local go_sem ↓] Go.wp_at_zero Go.wp_at_succ
abbrev relZ : Value := relV none 0 0 none 0 0 none 0 0
set_option maxHeartbeats 1000000 in
theorem look_bad (l : List Ev) (la : Option Addr) (lc : Nat) (ps : Value) (w : World) (hl : Rows w 26 la lc (l.map Ev.cells)) (c : Int) (hc : checkP l c) (h0 : c = 2 ∨ c = 7) :
    Calls Try.prog 32 #[.slice la l.length lc, ps] w fun e w' => e = .returned (.tuple #[relZ, .int .i64 c]) ∧ Below w.heap.size w w' := by
  have c1 : ∀ wx, Below w.heap.size w wx → Calls Try.prog 46 #[.slice la l.length lc] wx fun e w' => e = .returned (.int .i64 c) ∧ Below wx.heap.size wx w' := fun wx hb => check_any l la lc wx (hl.later hb) c hc
  have hlI := rows_len hl
  have bx := boxed w (.cells #[.slice none 0 0, .slice none 0 0, .slice none 0 0] 69)
  have hn := heap_alloc_new w (.cells #[.slice none 0 0, .slice none 0 0, .slice none 0 0] 69)
  clear hl hc
  rcases h0 with rfl | rfl
  all_goals
    go_enter Try.func32, Try.ntmps32
    go_wp2_with (first
      | (go_at_call 46; (with_reducible refine (c1 _ bx).mono ?_); rintro e w1 ⟨rfl, hb1⟩; (have hn1 : Hid (w1.heap[w.heap.size]? = some (.cells #[.slice none 0 0, .slice none 0 0, .slice none 0 0] 69)) := (hb1.block _ (by rw [World.size_alloc]; omega)).trans hn); (have hbw1 : Hid (Below w.heap.size w w1) := bthen bx hb1); clear hb1 c1 bx hn)
      | (refine wpList_store_row rfl 69 _ _ rfl w.heap.size _ rfl rfl _ _ hn1.out infoR rfl (one3 _ _ _ _ _ _ _ _ _) ?_))
    exact bodyPost_ret (results_rel Try.results32 _ _ w.heap.size #[.slice none 0 0, .slice none 0 0, .slice none 0 0] _ rfl rfl rfl (setRow_heap _ w.heap.size _ _ _ _ hn1.out)) rfl ⟨rfl, below_setRow hbw1.out (Nat.le_refl _) _⟩
/-- Whether a place happens before another one, by the clocks. -/
def befK (C : List Ck) (l : List Ev) (i j : Nat) : Bool := decide (i < j) && decide ((C.getD i zeroK).of (evf l i).go.toNat ≤ (C.getD j zeroK).of (evf l i).go.toNat)
set_option maxHeartbeats 1000000 in
theorem rbefore_any (l : List Ev) (la : Option Addr) (lc : Nat) (C : List Ck) (ca : Option Addr) (cc lo : Nat) (da : Option Addr) (dl dc : Nat) (i j : Nat) (w : World) (hl : Rows w 26 la lc (l.map Ev.cells)) (hC : OwnL w lo 40 6 ca cc (C.map Ck.cells)) (hlen : l.length ≤ 256) (hrt : ∀ x ∈ l, rightP x) (hCl : C.length = l.length) (hi : i < l.length) (hj : j < l.length) (R : Bool) (hR : Hid (R = befK C l i j)) :
    Calls Try.prog 40 #[relV la l.length lc ca C.length cc da dl dc, .int .i64 (i : Int), .int .i64 (j : Int)] w fun e w' => e = .returned (.bool R) ∧ Below w.heap.size w w' := by
  have bx := boxed w (.cells #[.slice la l.length lc, .slice ca C.length cc, .slice da dl dc] 69)
  have hn := heap_alloc_new w (.cells #[.slice la l.length lc, .slice ca C.length cc, .slice da dl dc] 69)
  have hCi : C[i]? = some (C.getD i zeroK) := by rw [List.getD_eq_getElem?_getD, List.getElem?_eq_getElem (by omega)]; rfl
  have hCj : C[j]? = some (C.getD j zeroK) := by rw [List.getD_eq_getElem?_getD, List.getElem?_eq_getElem (by omega)]; rfl
  obtain ⟨g0, g6⟩ := (hrt _ (List.mem_of_getElem? (evf_at hi))).1
  obtain ⟨eb, eo, e1, e2, e3⟩ := ev_row hl i _ (evf_at hi)
  obtain ⟨xb, xo, x1, x2, x3⟩ := ck_row hC i _ hCi
  obtain ⟨yb, yo, y1, y2, y3⟩ := ck_row hC j _ hCj
  have hgN : (((evf l i).go.toNat : Nat) : Int) = (evf l i).go := Int.toNat_of_nonneg g0
  have hg : (evf l i).go.toNat < 6 := by omega
  have m1 := ck_mid xb xo _ hg
  have m2 := ck_mid yb yo _ hg
  rw [hgN] at m1 m2
  go_enter Try.func40, Try.ntmps40
  have k1 : Hid (_) := bx
  generalize hW : w.alloc (.cells #[.slice la l.length lc, .slice ca C.length cc, .slice da dl dc] 69) = W at *
  have c0 : W.cell? ⟨w.heap.size, 0, none⟩ = some (.slice la l.length lc) := cell_of hn rfl
  have c1 : W.cell? ⟨w.heap.size, 1, none⟩ = some (.slice ca C.length cc) := cell_of hn rfl
  have c2 : W.cell? ⟨eb, eo, none⟩ = some (.int .i64 (evf l i).go) := (bx.cell (p := ⟨eb, eo, none⟩) e2).trans (e3 0 _ rfl)
  have c3 : W.cell? ⟨xb, xo + (evf l i).go.toNat, none⟩ = some (.int .i64 ((C.getD i zeroK).of (evf l i).go.toNat)) := (bx.cell (p := ⟨xb, xo + (evf l i).go.toNat, none⟩) (blk_lt hC xb x2).2).trans (x3 _ _ (ck_of hg))
  have c4 : W.cell? ⟨yb, yo + (evf l i).go.toNat, none⟩ = some (.int .i64 ((C.getD j zeroK).of (evf l i).go.toNat)) := (bx.cell (p := ⟨yb, yo + (evf l i).go.toNat, none⟩) (blk_lt hC yb y2).2).trans (y3 _ _ (ck_of hg))
  unfold befK at hR
  clear hCi hCj hn bx hl hC hrt hCl e3 x3 y3 e2 x2 y2 hgN hg g0 g6
  generalize (C.getD i zeroK).of (evf l i).go.toNat = p at *
  generalize (C.getD j zeroK).of (evf l i).go.toNat = q at *
  generalize (evf l i).go.toNat = gg at *
  generalize (evf l i).go = g at *
  by_cases hij : i < j
  · have hijI : (i : Int) < j := by omega
    have hR2 : Hid (R = decide (p ≤ q)) := by show _ = _; rw [hR.out]; simp [hij]
    clear hR
    by_cases hpq : p ≤ q
    · have hR3 : R = true := by rw [hR2.out]; simp [hpq]
      subst hR3
      clear hR2
      go_wp2_with fail
      go_quiet (fail)
      go_wp2
      go_ret
      exact ⟨rfl, below_drewN k1.out _⟩
    · have hR3 : R = false := by rw [hR2.out]; simp [hpq]
      have hd : decide (p ≤ q) = false := by simpa using hpq
      subst hR3
      clear hR2 hpq
      go_wp2_with fail
      go_quiet (fail)
      go_wp2
      go_ret
      exact ⟨rfl, below_drewN k1.out _⟩
  · have hijI : ¬ (i : Int) < j := by omega
    have hR2 : R = false := by rw [hR.out]; simp [hij]
    have hd : decide ((i : Int) < j) = false := by simpa using hijI
    subst hR2
    clear hR hijI
    go_wp2_with fail
    go_quiet (fail)
    go_wp2
    go_ret
    exact ⟨rfl, below_drewN k1.out _⟩
end Go.Proofs.Ytbajfgllgfmnfaa.pg
