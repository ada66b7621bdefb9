/- The chapter's first example. -/
import Derived.Test.YtkhhkgfaakgdfaaM34
import Derived.Test.YtkhhkgfaakgdfaaM22
namespace Go.Proofs.Ytkhhkgfaakgdfaa.pg
open Go.ChangeShapes Go.WideShapes Go.ChangeAt Go.RowKit Go.Shelf
set_option linter.unusedVariables false
set_option linter.unusedSimpArgs false
set_option maxRecDepth 100000
attribute [local go_sem ↓] Go.wp_at_zero Go.wp_at_succ
def ex3 : List Ev := [stEv 0 0, stEv 1 1, stEv 0 1]
theorem rows_flat {W : World} {B : Nat} {L : List Ev} {t : TypeId} (h : W.heap[B]? = some (.cells (L.map Ev.cells).flatten.toArray t (0, 0))) (hl : L.length ≤ 256) : Rows W 26 (some ⟨B, 0, none⟩) L.length (L.map Ev.cells) := by
  have hk : ∀ row ∈ L.map Ev.cells, row.length = 26 := fun row hm => by rw [List.mem_map] at hm; obtain ⟨y, _, rfl⟩ := hm; rfl
  refine ⟨by simp, by omega, by simp, .inr ⟨B, 0, rfl, (Array.getElem?_eq_some_iff.mp h).1, fun i row hi => ⟨hk row (List.mem_of_getElem? hi), fun j u hj => ?_⟩⟩⟩
  rw [Nat.zero_add, cell_of_row W B _ _ _ _ h]
  have hj26 : j < 26 := by have := (List.getElem?_eq_some_iff.mp hj).1; have := hk row (List.mem_of_getElem? hi); omega
  have := flatten_at (k := 26) (L.map Ev.cells) hk i row hi j hj26
  rw [hj] at this
  simpa using this
theorem rel3 : (rel (evf ex3) 3).2 = [(1, 2), (0, 2)] := by decide
theorem bef3 : befK (rel (evf ex3) 3).1 ex3 0 1 = false := by decide
theorem hf3 : (hfold 3 (rel (evf ex3) 3).2).2 = 2 := by rw [rel3]; decide
theorem stEv_right (g v : Int) (h0 : 0 ≤ g) (h1 : g < 6) (h2 : 0 ≤ v) (h3 : v < manyP 1) : rightP (stEv g v) := by
  have ht : tN (stEv g v).n = 2 := by show tN 2 = 2; decide
  refine ⟨⟨h0, h1, by show (1 : Int) ≤ 2; omega, by show (2 : Int) ≤ 6; omega⟩, fun i hi => ?_, ?_, ?_⟩
  · rw [ht] at hi
    match i, hi with
    | 0, _ =>
      intro a ha
      have : a = ⟨1, v, true⟩ := by simpa [stEv, Ev.list] using ha.symm
      subst this
      exact ⟨⟨h2, h3⟩, fun q => by omega⟩
    | 1, _ =>
      intro a ha
      have : a = ⟨5, g, true⟩ := by simpa [stEv, Ev.list] using ha.symm
      subst this
      have hm5 : g < manyP 5 := by rw [show manyP 5 = 6 by decide]; exact h1
      refine ⟨⟨h0, hm5⟩, fun _ b hb => ?_⟩
      have : b = ⟨1, v, true⟩ := by simpa [stEv, Ev.list] using hb.symm
      subst this
      simp [bef]
  · rw [ht]
    intro a ha
    simp [stEv, Ev.list] at ha
    exact ha
  · unfold Ev.of
    rw [ht]
    simp [stEv, Ev.list]
theorem right3 : ∀ x ∈ ex3, rightP x := by
  intro x hx
  simp [ex3] at hx
  rcases hx with rfl | rfl | rfl
  · exact stEv_right 0 0 (by omega) (by omega) (by omega) (by decide)
  · exact stEv_right 1 1 (by omega) (by omega) (by omega) (by decide)
  · exact stEv_right 0 1 (by omega) (by omega) (by omega) (by decide)
theorem sorted3 {D : List (Nat × Nat)} (hp : D.Perm [(1, 2), (0, 2)]) (hs : D.Pairwise lex) : D = [(0, 2), (1, 2)] := by
  have hl := hp.length_eq
  match D, hl with
  | [a, b], _ =>
    have ha : a ∈ [((1 : Nat), (2 : Nat)), (0, 2)] := hp.mem_iff.mp (by simp)
    have h1 : ((1 : Nat), (2 : Nat)) ∈ [a, b] := hp.mem_iff.mpr (by simp)
    have h0 : ((0 : Nat), (2 : Nat)) ∈ [a, b] := hp.mem_iff.mpr (by simp)
    have hab : lex a b := by simp at hs; exact hs
    simp at ha h1 h0
    rcases ha with rfl | rfl
    · simp at h0
      subst h0
      simp [lex] at hab
    · simp at h1
      subst h1
      rfl
theorem eq2_02 : ∀ wx, (binOp .eql 41 (.agg #[.int .i64 0, .int .i64 2]) (.agg #[.int .i64 0, .int .i64 2])).run Try.prog wx = .ok (.bool true) wx := fun _ => by kernel_rfl
theorem eq2_12 : ∀ wx, (binOp .eql 41 (.agg #[.int .i64 1, .int .i64 2]) (.agg #[.int .i64 1, .int .i64 2])).run Try.prog wx = .ok (.bool true) wx := fun _ => by kernel_rfl
/-- Edges of the example. -/
theorem edges3 (a : Option Addr) (w : World) (h : Rows w 26 a 3 (ex3.map Ev.cells)) : Calls Try.prog 12 #[.slice a 3 3] w fun e w' => ∃ da dc, e = .returned (.tuple #[.slice da 2 dc, .int .i64 0]) ∧ Rows w' 2 da dc ([(0, 2), (1, 2)].map edg) ∧ Below w.heap.size w w' :=
  (edges_ok ex3 a 3 w h (by decide) right3).mono fun e w' ⟨da, dc, D, he, hp, hs, hr, hb⟩ => by
    have hD := sorted3 (by rw [← rel3]; exact hp) hs
    subst hD
    exact ⟨da, dc, he, hr, hb⟩
theorem before3 (a : Option Addr) (w : World) (h : Rows w 26 a 3 (ex3.map Ev.cells)) : Calls Try.prog 22 #[.slice a 3 3, .int .i64 0, .int .i64 1] w fun e w' => e = .returned (.tuple #[.bool false, .int .i64 0]) ∧ Below w.heap.size w w' :=
  before_ok ex3 a 3 0 1 w h (by decide) right3 (by decide) (by decide) false bef3.symm
theorem height3 (a : Option Addr) (w : World) (h : Rows w 26 a 3 (ex3.map Ev.cells)) : Calls Try.prog 14 #[.slice a 3 3] w fun e w' => e = .returned (.tuple #[.int .i64 2, .int .i64 0]) ∧ Below w.heap.size w w' :=
  (height_ok ex3 a 3 w h (by decide) right3).mono fun e w' ⟨he, hb⟩ => ⟨by rw [he]; show _ = Ending.returned (.tuple #[.int .i64 2, .int .i64 0]); rw [← hf3]; rfl, hb⟩
theorem infoP2 : (Try.prog.info? 41).map (·.size) = some 2 := by kernel_rfl
theorem ix3 {w : World} {da : Option Addr} {dc : Nat} (h : Rows w 2 da dc ([(0, 2), (1, 2)].map edg)) : ∃ b0 o0 b1 o1, (∀ wx, (Instr.indexAt 27 (.slice da 2 dc) (.int .i64 0)).run Try.prog wx = .ok (.pointer (some ⟨b0, o0, none⟩)) wx) ∧ (∀ wx, (Instr.indexAt 27 (.slice da 2 dc) (.int .i64 1)).run Try.prog wx = .ok (.pointer (some ⟨b1, o1, none⟩)) wx) ∧ w.rangeAt b0 o0 [.int .i64 0, .int .i64 2] ∧ w.rangeAt b1 o1 [.int .i64 1, .int .i64 2] := by
  obtain ⟨b0, o0, x0, _, r0⟩ := h.ix 27 41 Try.underlying27 (by kernel_rfl) (fun wx => Try.sizeOf41 wx) 0 (row := edg (0, 2)) rfl
  obtain ⟨b1, o1, x1, _, r1⟩ := h.ix 27 41 Try.underlying27 (by kernel_rfl) (fun wx => Try.sizeOf41 wx) 1 (row := edg (1, 2)) rfl
  exact ⟨b0, o0, b1, o1, x0, x1, r0, r1⟩
theorem infoEv : (Try.prog.info? 66).map (fun i => (i.zero, i.size, i.bytes)) = some (some (.agg stEvZ.cells.toArray), 26, 208) := by kernel_rfl
set_option maxHeartbeats 2000000 in
theorem speaks12_any (w : World) : Calls Try.prog 16 #[] w fun e w' => e = .returned (.bool true) ∧ Below w.heap.size w w' := by
  have c0 : ∀ (g v : Int) wx, Calls Try.prog 48 #[.int .i64 g, .int .i64 v] wx _ := fun g v wx => stored_any g v wx
  obtain ⟨iE, hiE, hzE, hsE, hbE⟩ := info_q infoEv
  have hiH : Hid (Try.prog.info? 66 = some iE ∧ iE.zero = some (.agg stEvZ.cells.toArray) ∧ iE.size = 26) := ⟨hiE, hzE, hsE⟩
  have q1 := eq2_02
  have q2 := eq2_12
  have huP : Hid (Try.prog.underlying 41 = _) := Try.underlying41
  clear hiE hzE hsE hbE
  go_enter Try.func16, Try.ntmps16
  go_wp2_with (first
    | (go_at_call 48; (with_reducible refine (c0 _ _ _).mono ?_); rintro e w1 ⟨rfl, hb1⟩; (have hB1 : Hid (Below w.heap.size w w1) := by first | exact bthen hB1.out hb1 | exact hb1); clear hb1)
    | (refine wpList_buildSlice rfl 22 66 3 _ rfl (ex3.map Ev.cells).flatten.toArray iE _ Try.underlying22 hiH.out.1 hiH.out.2.1 (by rw [hiH.out.2.2]; omega) (by rw [hiH.out.2.2]; omega) (by simp only [hiH.out.2.2]; kernel_rfl) ?_)
    | (go_at_call 12; (have hr := rows_flat (L := ex3) (heap_alloc_new w1 (.cells (ex3.map Ev.cells).flatten.toArray 66)) (by decide)); (have hBW := bthen hB1.out (boxed w1 (.cells (ex3.map Ev.cells).flatten.toArray 66))); (refine (edges3 _ _ hr).mono ?_); rintro e w2 ⟨da, dc, rfl, hr2, hb2⟩; (have f2 : Hid (Rows w2 26 (some ⟨w1.heap.size, 0, none⟩) 3 (ex3.map Ev.cells) ∧ Rows w2 2 da dc ([(0, 2), (1, 2)].map edg) ∧ Below w.heap.size w w2) := ⟨hr.later hb2, hr2, bthen hBW hb2⟩); clear hr hBW hr2 hb2 hB1)
    | (go_at_call 22; (refine (before3 _ _ f2.out.1).mono ?_); rintro e w3 ⟨rfl, hb3⟩; (have f3 : Hid (Rows w3 26 (some ⟨w1.heap.size, 0, none⟩) 3 (ex3.map Ev.cells) ∧ Rows w3 2 da dc ([(0, 2), (1, 2)].map edg) ∧ Below w.heap.size w w3) := ⟨f2.out.1.later hb3, f2.out.2.1.later hb3, bthen f2.out.2.2 hb3⟩); clear hb3 f2)
    | (go_at_call 14; (refine (height3 _ _ f3.out.1).mono ?_); rintro e w4 ⟨rfl, hb4⟩; (have f4 : Hid (Below w.heap.size w w4) := bthen f3.out.2.2 hb4); (obtain ⟨b0, o0, b1, o1, x0, x1, r⟩ := ix3 (f3.out.2.1.later hb4)); (have rH : Hid _ := r); clear hb4 f3 r)
    | (refine wpList_load_g rfl 41 _ rfl b0 o0 rfl [.int .i64 0, .int .i64 2] _ rH.out.1 huP.out rfl infoP2 ?_)
    | (refine wpList_load_g rfl 41 _ rfl b1 o1 rfl [.int .i64 1, .int .i64 2] _ rH.out.2 huP.out rfl infoP2 ?_))
  go_ret
  exact ⟨rfl, f4.out⟩
end Go.Proofs.Ytkhhkgfaakgdfaa.pg
/- The events that touch an object, by package depend; DependUses, walked. -/
namespace Go.Proofs.Ytkhhkgfaakgdfaa.pg
open Go.ChangeShapes Go.WideShapes Go.ChangeAt Go.RowKit
set_option linter.unusedVariables false
set_option linter.unusedSimpArgs false
set_option maxRecDepth 100000
attribute [local go_sem ↓] Go.wp_at_zero Go.wp_at_succ
/-- Events that came in. -/
def EvsIn (w : World) (b : Option Addr) (c : Nat) (l : List Ev) : Prop := Rows w 26 b c (l.map Ev.cells) ∧ ∀ x ∈ l, x.wf
section
variable {H : Type} {enc : TypeId × Value → H} {w : World} {base : Nat} {spare : Nat → Bool} {held : Bool}
theorem evs_sz {n : Nat} {a : Option Addr} {len cap : Nat} {y : DataW H × List MemPlace} (h : DataW.trod enc Try.prog w base spare held n 22 [.slice a len cap] = some y) (hs : Sz Try.prog 22 y.1) : ∃ l : List Ev, l.length = len ∧ EvsIn w a cap l := by
  obtain ⟨l, rfl, h1, h2, h3⟩ := rows_sz (k := 26) ev0 Ev.cells Ev.wf Try.underlying22 (by kernel_rfl) (by omega) (fun n cs y hl h _ => ev_in hl h) h hs
  exact ⟨l, rfl, h1, h2⟩
end
set_option maxHeartbeats 1000000 in
theorem sameInts_u (l : List Int) (a b : Option Addr) (ca cb : Nat) (w : World) (ha : Rows w 1 a ca (l.map chCells)) (hb : Rows w 1 b cb (l.map chCells)) :
    Calls Try.prog 19 #[.slice a l.length ca, .slice b l.length cb] w fun e w' => e = .returned (.bool true) ∧ Below w.heap.size w w' := by
  have hlI : (l.length : Int) ≤ 9223372036854775807 := rows_len ha
  go_enter Try.func19, Try.ntmps19
  go_wp2_with fail
  go_loopw [13] (fun u wr => ∃ k : Nat, k ≤ l.length ∧ u = .int .i64 k ∧ Below w.heap.size w wr) (fun u _ => l.length - (intOf u).toNat)
  case atStart => exact ⟨0, Nat.zero_le _, rfl, Below.refl _ _⟩
  case round =>
    obtain ⟨k, hk, rfl, hbe⟩ := hrel
    by_cases hlt : k < l.length
    · obtain ⟨y, hy, hym⟩ := get_lt l k hlt
      obtain ⟨b1, o1, hix1, hbl1, c1⟩ := ch_ix (ha.later hbe) k y hy
      obtain ⟨b2, o2, hix2, hbl2, c2⟩ := ch_ix (hb.later hbe) k y hy
      have hkI : (k : Int) < l.length := by omega
      go_wp2_with fail
      go_quiet (fail)
      go_wp2
      go_roundw
      case rel => exact ⟨k + 1, by omega, by go_num, below_drewN hbe _⟩
      case measure => simp [intOf]; omega
    · have hk2 : k = l.length := by omega
      subst hk2
      go_wp2
      go_ret
      exact ⟨rfl, hbe⟩
end Go.Proofs.Ytkhhkgfaakgdfaa.pg
