/- look of package order. -/
import Derived.Test.YtbajfgllgfmnfaaLk0
import Derived.Test.YtbajfgllgfmnfaaRt6
namespace Go.Proofs.Ytbajfgllgfmnfaa.pg
open Go.ChangeShapes Go.WideShapes Go.ChangeAt Go.RowKit Go.Shelf
set_option linter.unusedVariables false
set_option linter.unusedSimpArgs false
set_option maxRecDepth 100000
attribute [local go_sem ↓] Go.wp_at_zero Go.wp_at_succ
def evf (l : List Ev) (i : Nat) : Ev := l.getD i ev0
theorem evf_at {l : List Ev} {i : Nat} (h : i < l.length) : l[i]? = some (evf l i) := by
  unfold evf
  rw [List.getD_eq_getElem?_getD, List.getElem?_eq_getElem h]
  rfl
theorem rows_take {w : World} {k : Nat} {a : Option Addr} {cap : Nat} {L : List (List Value)} (h : Rows w k a cap L) (n : Nat) : Rows w k a cap (L.take n) := by
  obtain ⟨h1, h2, h3, h4⟩ := h
  refine ⟨by rw [List.length_take]; omega, h2, fun q => ⟨by rw [(h3 q).1]; simp, (h3 q).2⟩, ?_⟩
  rcases h4 with rfl | ⟨b, off, ha, hlt, hc⟩
  · left; simp
  · refine .inr ⟨b, off, ha, hlt, fun i row hi => hc i row ?_⟩
    rw [List.getElem?_take] at hi
    split at hi
    · exact hi
    · cases hi
theorem ck_row {w : World} {lo : Nat} {a : Option Addr} {cap : Nat} {C : List Ck} (h : OwnL w lo 40 6 a cap (C.map Ck.cells)) (i : Nat) (x : Ck) (hi : C[i]? = some x) :
    ∃ b o, (∀ wx, (Instr.indexAt 23 (.slice a C.length cap) (.int .i64 (i : Int))).run Try.prog wx = .ok (.pointer (some ⟨b, o, none⟩)) wx) ∧ b ∈ blk a ∧ w.rangeAt b o x.cells := by
  have hr : Rows w 6 a cap (C.map Ck.cells) := own_rows h fun row hm => by rw [List.mem_map] at hm; obtain ⟨y, _, rfl⟩ := hm; rfl
  obtain ⟨b0, off, ha, hlt, hc⟩ := hr.row (i := i) (row := x.cells) (by simp [hi])
  obtain ⟨b, o, h1, h2, h3⟩ := hr.ix 23 40 Try.underlying23 (by kernel_rfl) (fun wx => Try.sizeOf40 wx) i (row := x.cells) (by simp [hi])
  rw [List.length_map] at h1
  refine ⟨b, o, h1, ?_, h3⟩
  have hil : i < C.length := (List.getElem?_eq_some_iff.mp hi).1
  have : b = b0 := by
    have h5 := h1 w
    subst ha
    have u := Try.underlying23
    have z := Try.sizeOf40
    have q1 : (i : Int) < C.length := by omega
    have q2 : ¬ (i : Int) < 0 := by omega
    simp [Instr.indexAt, run_underlying u, asIntOf, go_sem, z, q1, q2, hil] at h5
    exact h5.1.symm
  rw [this, ha]
  simp [blk]
/-- How far look has come. -/
structure LSt (w : World) (l : List Ev) (la : Option Addr) (lc R j : Nat) (ca : Option Addr) (cc : Nat) (da : Option Addr) (dc : Nat) (wr : World) : Prop where
  rl : wr.heap[R]? = some (objR la l.length lc ca j cc da (rel (evf l) j).2.length dc)
  ck : OwnL wr w.heap.size 40 6 ca cc ((rel (evf l) j).1.map Ck.cells)
  ed : OwnL wr w.heap.size 41 2 da dc ((rel (evf l) j).2.map edg)
  n1 : ∀ b ∈ blk ca, b ≠ R ∧ b ∉ blk da ∧ w.heap.size < b
  n2 : ∀ b ∈ blk da, b ≠ R ∧ w.heap.size < b
  be : Below w.heap.size w wr
  rs : ∃ o : Array Value, o.size = 3 ∧ wr.heap[w.heap.size]? = some (.cells o 69)
  hR : w.heap.size < R
theorem add_look (w : World) (l : List Ev) (la : Option Addr) (lc R j : Nat) (ca : Option Addr) (cc : Nat) (da : Option Addr) (dc : Nat) (wr : World) (hl : Rows w 26 la lc (l.map Ev.cells)) (h : LSt w l la lc R j ca cc da dc wr) (hlen : l.length ≤ 256) (hrt : ∀ x ∈ l, rightP x) (hj : j < l.length) :
    Calls Try.prog 47 #[.pointer (some ⟨R, 0, none⟩), .int .i64 (j : Int)] wr fun e w' => (∃ v, e = .returned v) ∧ ∃ ca' cc' da' dc', LSt w l la lc R (j + 1) ca' cc' da' dc' w' := by
  have hRw : R < wr.heap.size := (Array.getElem?_eq_some_iff.mp h.rl).1
  have hlR := h.hR
  have rl := rel_len (evf l) j
  have go6 : ∀ i, i < l.length → 0 ≤ (evf l i).go ∧ (evf l i).go < 6 := fun i hi => by
    have := (hrt _ (List.mem_of_getElem? (evf_at hi))).1
    exact ⟨this.1, this.2.1⟩
  have cki : ∀ i, i < j → (rel (evf l) j).1[i]? = some (ckf (evf l) j i) := fun i hi => by
    unfold ckf
    rw [List.getD_eq_getElem?_getD, List.getElem?_eq_getElem (by omega)]
    rfl
  have up : ∀ i, i < j → (ckf (evf l) j i).upto j := fun i hi => rel_upto (evf l) j (fun i hi => by have := go6 i (by omega); omega) _ (List.mem_of_getElem? (cki i hi))
  have hcap : l.length ≤ lc ∧ lc ≤ 9223372036854775807 := ⟨by have := hl.1; rwa [List.length_map] at this, hl.2.1⟩
  have hgood : Ctx.Good { w := wr, n₀ := w.heap.size, R := R, ea := la, en := l.length, ec := lc, ca := ca, cn := j, cc := cc, da := da, j := j } := ⟨hRw, by show w.heap.size ≤ R; omega, fun b hb => ⟨(blk_lt h.ed b hb).2, (blk_lt h.ed b hb).1⟩, fun q => (h.n2 R q).1 rfl, fun b hb => ⟨(blk_lt h.ck b hb).2, (h.n1 b hb).1, (h.n1 b hb).2.1⟩⟩
  have hlies : Ctx.Lies { w := wr, n₀ := w.heap.size, R := R, ea := la, en := l.length, ec := lc, ca := ca, cn := j, cc := cc, da := da, j := j } (evf l) (ckf (evf l) j) := by
    refine ⟨fun i hi => ?_, ?_, fun i hi => ?_, fun i hi => go6 i (by have : i ≤ j := hi; omega), fun i hi => upto_ok (up i hi) (by show (j : Int) ≤ 1073741824; omega)⟩
    · have h2 := rows_take hl j
      rw [← List.map_take] at h2
      obtain ⟨b, o, q1, q2, q3⟩ := ev_row h2 i (evf l i) (by rw [List.getElem?_take, if_pos hi]; exact evf_at (by have : i < j := hi; omega))
      rw [List.length_take, Nat.min_eq_left (by omega)] at q1
      exact ⟨b, o, q1, q2, range_block q3 (h.be.block b q2)⟩
    · obtain ⟨b, o, q1, q2, q3⟩ := ev_row hl j (evf l j) (evf_at hj)
      exact ⟨b, o, q1, q2, range_block q3 (h.be.block b q2)⟩
    · have q := ck_row h.ck i _ (cki i hi)
      rw [rl] at q
      exact q
  refine (add_any _ hgood (evf l) (ckf (evf l) j) (rel (evf l) j).2 dc (by show j < 256; omega) hj hcap.1 hcap.2 h.rl h.ed hlies (by have := rel_edges (evf l) j (by omega); omega) (rel (evf l) j).1 rl.symm (by omega) h.ck (tk (told (evf l) (ckf (evf l) j) j (dn j j)).1 (evf l j).go.toNat) ?_).mono ?_
  · have g := go6 j hj
    have := tick_is (g := (evf l j).go.toNat) (told_upto (evf l) (ckf (evf l) j) j j (by omega) up j (dn j j) (dn_len (Nat.le_refl _))) (by omega) (by omega)
    rw [Int.toNat_of_nonneg g.1] at this
    exact this
  · rintro e w' ⟨hv, ca', cc', da', dc', a1, a2, a3, a4, a5, a6, a7⟩
    have hz := h.be.size
    obtain ⟨o, ho, hrs⟩ := h.rs
    have hlt : w.heap.size < wr.heap.size := (Array.getElem?_eq_some_iff.mp hrs).1
    refine ⟨hv, ca', cc', da', dc', ⟨?_, a2, a3, ?_, ?_, h.be.trans a7, ⟨o, ho, ?_⟩, h.hR⟩⟩
    · rw [List.length_append, List.length_singleton, rl] at a1
      exact a1
    · intro b hb
      obtain ⟨q1, q2⟩ := a4 b hb
      rcases q1 with q1 | q1
      · exact ⟨(h.n1 b q1).1, q2, (h.n1 b q1).2.2⟩
      · have q1' : wr.heap.size ≤ b := q1
        exact ⟨by omega, q2, by omega⟩
    · intro b hb
      rcases a5 b hb with q1 | q1
      · exact h.n2 b q1
      · have q1' : wr.heap.size ≤ b := q1
        exact ⟨by omega, by omega⟩
    · rw [a6 w.heap.size hlt (by show w.heap.size ≠ R; omega) (fun q => by have := (h.n1 _ q).2.2; omega) (fun q => by have := (h.n2 _ q).2; omega)]
      exact hrs
end Go.Proofs.Ytbajfgllgfmnfaa.pg
