/- Clocks and Before of package order, whole. -/
import Derived.Test.YtkadlopcomjonaaM17
import Derived.Lib.MinMax
import Derived.Test.YtkadlopcomjonaaM16
import Derived.Test.YtkadlopcomjonaaM4
namespace Go.Proofs.Ytkadlopcomjonaa.pg
open Go.ChangeShapes Go.WideShapes Go.ChangeAt Go.RowKit Go.Shelf
set_option linter.unusedVariables false
set_option linter.unusedSimpArgs false
set_option maxRecDepth 100000
attribute [local go_sem ↓] Go.wp_at_zero Go.wp_at_succ
theorem rows_nil1 (w : World) : Rows w 1 none 0 (([] : List Int).map chCells) := ⟨by simp, by omega, fun _ => ⟨rfl, rfl⟩, .inl rfl⟩
theorem infoR3 (ea : Option Addr) (en ec : Nat) (ca : Option Addr) (cn cc : Nat) (da : Option Addr) (dl dc : Nat) : (Try.prog.info? 104).map (·.size) = some ([.slice ea en ec, .slice ca cn cc, .slice da dl dc] : List Value).length := infoR
set_option maxHeartbeats 1000000 in
theorem clocks_ok (l : List Ev) (la : Option Addr) (lc : Nat) (w : World) (hl : Rows w 26 la lc (l.map Ev.cells)) (hlen : l.length ≤ 256) (hrt : ∀ x ∈ l, rightP x) :
    Calls Try.prog 73 #[.slice la l.length lc] w fun e w' => ∃ ca cc, e = .returned (.tuple #[.slice ca l.length cc, .int .i64 0]) ∧ OwnL w' w.heap.size 86 6 ca cc ((rel (evf l) l.length).1.map Ck.cells) ∧ Below w.heap.size w w' := by
  have c1 : Calls Try.prog 58 #[.slice la l.length lc, .slice none 0 0] w (LookPost l la lc w) := look_any l la lc [] none 0 w hl (rows_nil1 w) hlen hrt (by simp) (by simp)
  clear hl hrt
  go_enter Try.func73, Try.ntmps73
  go_wp2_with (first
    | (go_at_call 58; (with_reducible refine c1.mono ?_); rintro e w1 ⟨ca, cc, da, dc, rfl, ow', _, hb'⟩; (have ow : Hid (OwnL w1 w.heap.size 86 6 ca cc ((rel (evf l) l.length).1.map Ck.cells)) := ow'); (have hb : Hid (Below w.heap.size w w1) := hb'); (have hx : (w1.alloc (.cells #[.slice la l.length lc, .slice ca l.length cc, .slice da (rel (evf l) l.length).2.length dc] 104)).cell? ⟨w1.heap.size, 1, none⟩ = some (.slice ca l.length cc) := cell_of (heap_alloc_new _ _) rfl); clear ow' hb' c1)
    | (refine wpList_store_new rfl 104 _ _ rfl rfl _ _ rfl (by kernel_rfl) rfl (one3 _ _ _ _ _ _ _ _ _) ?_))
  go_ret2
  exact ⟨ca, cc, rfl, own_keep ow.out fun b hb' => (boxed w1 _).block b (blk_lt ow.out b hb').2, bthen hb.out (boxed _ _)⟩
set_option maxHeartbeats 1000000 in
theorem clocks_bad (l : List Ev) (la : Option Addr) (lc : Nat) (w : World) (hl : Rows w 26 la lc (l.map Ev.cells)) (c : Int) (hc : checkP l c) (h0 : c = 2 ∨ c = 7) :
    Calls Try.prog 73 #[.slice la l.length lc] w fun e w' => e = .returned (.tuple #[.slice none 0 0, .int .i64 c]) ∧ Below w.heap.size w w' := by
  have c1 := look_bad l la lc (.slice none 0 0) w hl c hc h0
  have hx : ∀ w1 : World, (w1.alloc (.cells #[.slice none 0 0, .slice none 0 0, .slice none 0 0] 104)).cell? ⟨w1.heap.size, 1, none⟩ = some (.slice none 0 0) := fun w1 => cell_of (heap_alloc_new _ _) rfl
  clear hl hc h0
  go_enter Try.func73, Try.ntmps73
  go_wp2_with (first
    | (go_at_call 58; (with_reducible refine c1.mono ?_); rintro e w1 ⟨rfl, hb'⟩; (have hb : Hid (Below w.heap.size w w1) := hb'); (have hx1 := hx w1); clear hb' c1)
    | (refine wpList_store_new rfl 104 _ _ rfl rfl _ _ rfl (by kernel_rfl) rfl (one3 _ _ _ _ _ _ _ _ _) ?_))
  go_ret2
  exact ⟨rfl, bthen hb.out (boxed _ _)⟩
end Go.Proofs.Ytkadlopcomjonaa.pg
/- Height of package order. -/
namespace Go.Proofs.Ytkadlopcomjonaa.pg
open Go.ChangeShapes Go.WideShapes Go.ChangeAt Go.RowKit Go.Shelf
set_option linter.unusedVariables false
set_option linter.unusedSimpArgs false
set_option maxRecDepth 100000
attribute [local go_sem ↓] Go.wp_at_zero Go.wp_at_succ
/-- One edge more: how many stand ahead of its later end, and the height. -/
def hstep (s : List Int × Int) (p : Nat × Nat) : List Int × Int := (s.1.set p.2 (max (s.1.getD p.2 0) (s.1.getD p.1 0 + 1)), max s.2 (max (s.1.getD p.2 0) (s.1.getD p.1 0 + 1) + 1))
def hfold (n : Nat) (E : List (Nat × Nat)) : List Int × Int := E.foldl hstep (List.replicate n 0, min 1 n)
theorem hfold_more (n : Nat) (E : List (Nat × Nat)) (p : Nat × Nat) : hfold n (E ++ [p]) = hstep (hfold n E) p := by unfold hfold; rw [List.foldl_append]; rfl
theorem told_pairs (ev : Nat → Ev) (cf : Nat → Ck) (j : Nat) : ∀ (n : Nat) (pre : List { i : Nat // i < j }), pre.length = n → ∀ p ∈ (told ev cf j pre).2, p.1 < j ∧ p.2 = j
  | 0, pre, h => by
    have : pre = [] := List.length_eq_zero_iff.mp h
    subst this
    intro p hp
    simp [told] at hp
  | n + 1, pre, h => by
    rcases List.eq_nil_or_concat pre with rfl | ⟨q, x, rfl⟩
    · simp at h
    · rw [List.concat_eq_append] at h ⊢
      rw [List.length_append, List.length_singleton] at h
      have h1 := told_pairs ev cf j n q (by omega)
      rw [told_more]
      unfold stp
      split
      · exact h1
      · intro p hp
        rw [List.mem_append, List.mem_singleton] at hp
        rcases hp with hp | rfl
        · exact h1 p hp
        · exact ⟨x.2, rfl⟩
theorem rel_pairs (ev : Nat → Ev) : ∀ j, ∀ p ∈ (rel ev j).2, p.1 < p.2 ∧ p.2 < j
  | 0, p, hp => by simp [rel] at hp
  | j + 1, p, hp => by
    rw [rel, List.mem_append] at hp
    rcases hp with hp | hp
    · have := rel_pairs ev j p hp; omega
    · have := told_pairs ev _ j _ _ rfl p hp; omega
/-- Bounds on what the loop knows. -/
def hok (n k : Nat) (s : List Int × Int) : Prop := s.1.length = n ∧ (∀ v ∈ s.1, 0 ≤ v ∧ v ≤ k) ∧ 0 ≤ s.2 ∧ s.2 ≤ (k : Int) + 1
theorem getD_in {s : List Int} {k : Nat} (h : ∀ v ∈ s, 0 ≤ v ∧ v ≤ (k : Int)) (i : Nat) : 0 ≤ s.getD i 0 ∧ s.getD i 0 ≤ k := by
  rw [List.getD_eq_getElem?_getD]
  cases q : s[i]? with
  | none => simp
  | some v => exact h v (List.mem_of_getElem? q)
theorem hok_step {n k : Nat} {s : List Int × Int} (h : hok n k s) (p : Nat × Nat) : hok n (k + 1) (hstep s p) := by
  obtain ⟨h1, h2, h3, h4⟩ := h
  have a := getD_in h2 p.1
  have b := getD_in h2 p.2
  have m : 0 ≤ max (s.1.getD p.2 0) (s.1.getD p.1 0 + 1) ∧ max (s.1.getD p.2 0) (s.1.getD p.1 0 + 1) ≤ (k : Int) + 1 := by rw [Int.max_def]; split <;> omega
  refine ⟨by simp [hstep, h1], fun v hv => ?_, ?_, ?_⟩
  · rcases List.mem_or_eq_of_mem_set hv with q | q
    · have := h2 v q; omega
    · rw [q]; omega
  · show 0 ≤ max s.2 _
    rw [Int.max_def]; split <;> omega
  · show max s.2 _ ≤ _
    rw [Int.max_def]; split <;> omega
theorem hfold_ok (n : Nat) (E : List (Nat × Nat)) : ∀ k, k ≤ E.length → hok n k (hfold n (E.take k))
  | 0, _ => ⟨by simp [hfold], fun v hv => by simp [hfold] at hv; omega, by simp [hfold]; omega, by simp [hfold]; omega⟩
  | k + 1, h => by
    rw [take_one E k E[k] (List.getElem?_eq_getElem (by omega)), hfold_more]
    exact hok_step (hfold_ok n E k (by omega)) _
theorem ix_int (A n : Nat) (j : Nat) (h : j < n) : ∀ wx, (Instr.indexAt 39 (.slice (some ⟨A, 0, none⟩) n n) (.int .i64 (j : Int))).run Try.prog wx = .ok (.pointer (some ⟨A, j, none⟩)) wx := by
  intro wx
  have u := Try.underlying39
  have z := Try.sizeOf3
  have q1 : (j : Int) < n := by omega
  have q2 : ¬ (j : Int) < 0 := by omega
  simp [Instr.indexAt, run_underlying u, asIntOf, go_sem, z, q1, q2, h]
abbrev objInts (s : List Int) : Obj := .cells (s.map fun v => Value.int .i64 v).toArray 3
/-- How far the loop has come. -/
structure HSt (w : World) (n A : Nat) (da : Option Addr) (dc : Nat) (E : List (Nat × Nat)) (s : List Int) (W : World) : Prop where
  a : W.heap[A]? = some (objInts s)
  e : OwnL W w.heap.size 94 2 da dc (E.map edg)
  b : Below w.heap.size w W
  n : ∀ b ∈ blk da, b < A
  l : w.heap.size ≤ A
theorem HSt.later {w : World} {n A : Nat} {da : Option Addr} {dc : Nat} {E : List (Nat × Nat)} {s : List Int} {W W' : World} (h : HSt w n A da dc E s W) (hb : Below W.heap.size W W') : HSt w n A da dc E s W' :=
  ⟨(hb.block _ (Array.getElem?_eq_some_iff.mp h.a).1).trans h.a, own_keep h.e fun b hb' => hb.block b (blk_lt h.e b hb').2, bthen h.b hb, h.n, h.l⟩
theorem HSt.set {w : World} {n A : Nat} {da : Option Addr} {dc : Nat} {E : List (Nat × Nat)} {s : List Int} {W : World} (h : HSt w n A da dc E s W) (j : Nat) (v : Int) : HSt w n A da dc E (s.set j v) (W.setCell ⟨A, j, none⟩ (.int .i64 v)) := by
  rw [setCell_eq_setRow W A j _ _ _ _ h.a]
  refine ⟨?_, own_keep h.e fun b hb' => setRow_other _ _ _ _ (by have := h.n b hb'; omega), below_setRow h.b h.l _, h.n, h.l⟩
  rw [setRow_heap W A _ _ _ _ h.a]
  simp [List.map_set]
theorem HSt.cell {w : World} {n A : Nat} {da : Option Addr} {dc : Nat} {E : List (Nat × Nat)} {s : List Int} {W : World} (h : HSt w n A da dc E s W) {j : Nat} (hj : j < s.length) : W.cell? ⟨A, j, none⟩ = some (.int .i64 (s.getD j 0)) ∧ W.frozen? ⟨A, j, none⟩ = false := by
  refine ⟨cell_of h.a ?_, frozen_of_row _ _ _ _ _ h.a⟩
  rw [List.getD_eq_getElem?_getD, List.getElem?_eq_getElem hj]
  simp [hj]
set_option maxHeartbeats 2000000 in
theorem height_ok (l : List Ev) (la : Option Addr) (lc : Nat) (w : World) (hl : Rows w 26 la lc (l.map Ev.cells)) (hlen : l.length ≤ 256) (hrt : ∀ x ∈ l, rightP x) :
    Calls Try.prog 48 #[.slice la l.length lc] w fun e w' => e = .returned (.tuple #[.int .i64 (hfold l.length (rel (evf l) l.length).2).2, .int .i64 0]) ∧ Below w.heap.size w w' := by
  have c1 : Calls Try.prog 58 #[.slice la l.length lc, .slice none 0 0] w (LookPost l la lc w) := look_any l la lc [] none 0 w hl (rows_nil1 w) hlen hrt (by simp) (by simp)
  have hEl : (rel (evf l) l.length).2.length ≤ 65536 := by have := rel_edges (evf l) l.length hlen; omega
  have hElH : Hid ((rel (evf l) l.length).2.length ≤ 65536) := hEl
  have hlI2 : (l.length : Int) ≤ 256 := by omega
  obtain ⟨iN, hiN, hzN, hsN, hbN⟩ := info_q infoN_u
  have hb8 : iN.bytes * l.length ≤ 281474976710656 := by rw [hbN]; omega
  clear hl hrt hEl
  go_enter Try.func48, Try.ntmps48
  go_wp2_with (first
    | (go_at_call 58; (with_reducible refine c1.mono ?_); rintro e w1 ⟨ca, cc, da, dc, rfl, _, oe', hb'⟩; (have oe : Hid (OwnL (w1.alloc (.cells #[.slice la l.length lc, .slice ca l.length cc, .slice da (rel (evf l) l.length).2.length dc] 104)) w.heap.size 94 2 da dc ((rel (evf l) l.length).2.map edg)) := own_keep oe' fun b hb' => (boxed w1 _).block b (blk_lt oe' b hb').2); (have hb : Hid (Below w.heap.size w (w1.alloc (.cells #[.slice la l.length lc, .slice ca l.length cc, .slice da (rel (evf l) l.length).2.length dc] 104))) := bthen hb' (boxed _ _)); (have hn : (w1.alloc (.cells #[.slice la l.length lc, .slice ca l.length cc, .slice da (rel (evf l) l.length).2.length dc] 104)).heap[w1.heap.size]? = some (.cells #[.slice la l.length lc, .slice ca l.length cc, .slice da (rel (evf l) l.length).2.length dc] 104) := heap_alloc_new _ _); (have hx := cell_of (k := 2) (v := .slice da (rel (evf l) l.length).2.length dc) hn rfl); (have hnH : Hid _ := hn); clear oe' hb' c1 hn)
    | (refine wpList_store_new rfl 104 _ _ rfl rfl _ _ rfl (by kernel_rfl) rfl (one3 _ _ _ _ _ _ _ _ _) ?_)
    | (refine wpList_mk _ rfl _ _ 39 rfl 3 iN (.int .i64 0) Try.underlying39 hiN hzN rfl hsN l.length rfl rfl hb8 (by omega) ?_; intro W hwh hbW hsW; (have hx2 := cell_of (k := 2) (v := .slice da (rel (evf l) l.length).2.length dc) ((hbW.block _ (by rw [World.size_alloc]; omega)).trans hnH.out) rfl)))
  have hA : w1.heap.size + 1 = (w1.alloc (.cells #[.slice la l.length lc, .slice ca l.length cc, .slice da (rel (evf l) l.length).2.length dc] 104)).heap.size := (World.size_alloc _ _).symm
  have hpr : Hid (∀ p ∈ (rel (evf l) l.length).2, p.1 < p.2 ∧ p.2 < l.length) := rel_pairs (evf l) l.length
  have s0 : Hid (HSt w l.length (w1.heap.size + 1) da dc (rel (evf l) l.length).2 (hfold l.length ((rel (evf l) l.length).2.take 0)).1 W) := by
    rw [hA]
    refine ⟨by rw [hwh]; simp [hfold], own_keep oe.out fun b hb' => hbW.block b (blk_lt oe.out b hb').2, bthen hb.out hbW, fun b hb' => (blk_lt oe.out b hb').2, hb.out.size⟩
  have h00 : (hfold l.length ((rel (evf l) l.length).2.take 0)).2 = min 1 (l.length : Int) := rfl
  generalize w1.heap.size + 1 = A at *
  generalize hEE : (rel (evf l) l.length).2 = E at *
  have hEH : Hid ((rel (evf l) l.length).2 = E) := hEE
  clear hwh hbW hsW hA hx hx2 hnH oe hb hEE
  have hEI : (E.length : Int) ≤ 65536 := by have := hElH.out; omega
  go_loopw [6, 29] (fun h u wr => ∃ k : Nat, k ≤ E.length ∧ u = .int .i64 k ∧ h = .int .i64 (hfold l.length (E.take k)).2 ∧ Hid (HSt w l.length A da dc E (hfold l.length (E.take k)).1 wr)) (fun _ u _ => E.length - (intOf u).toNat)
  case atStart => exact ⟨0, Nat.zero_le _, rfl, by rw [h00], s0⟩
  case round =>
    obtain ⟨k, hk, rfl, rfl, hs⟩ := hrel
    have hok1 := hfold_ok l.length E k hk
    by_cases hlt : k < E.length
    · obtain ⟨p, hp, hpm⟩ := get_lt E k hlt
      obtain ⟨p1, p2⟩ := hpr.out p hpm
      have hkI : (k : Int) < E.length := by omega
      have hmore : Hid (hfold l.length (E.take (k + 1)) = hstep (hfold l.length (E.take k)) p) := by show _ = _; rw [take_one E k p hp, hfold_more]
      have hr : Rows wr 2 da dc (E.map edg) := own_rows hs.out.e fun row hm => by rw [List.mem_map] at hm; obtain ⟨y, _, rfl⟩ := hm; rfl
      obtain ⟨b, o, hix, hbl, hrg⟩ := hr.ix 91 94 Try.underlying91 (by kernel_rfl) (fun wx => Try.sizeOf94 wx) k (row := edg p) (by simp [hp])
      rw [List.length_map] at hix
      have hrH : Hid (wr.rangeAt b o (edg p)) := hrg
      have hsP := hs.out.later (boxed wr (.cells (edg p).toArray 94))
      have hPP := heap_alloc_new wr (.cells (edg p).toArray 94)
      have cI := hsP.cell (j := p.1) (by rw [hok1.1]; omega)
      have cJ := hsP.cell (j := p.2) (by rw [hok1.1]; omega)
      have bI := getD_in hok1.2.1 p.1
      have bJ := getD_in hok1.2.1 p.2
      have bH := hok1.2.2
      have xI := ix_int A l.length p.1 (by omega)
      have xJ := ix_int A l.length p.2 p2
      have huP : Hid (Try.prog.underlying 94 = _) := Try.underlying94
      have hiP : Hid ((Try.prog.info? 94).map (·.size) = some 2) := by show _ = _; kernel_rfl
      clear hr hrg hok1
      go_wp2_with (first
        | (refine wpList_load_mid rfl 94 _ rfl b o rfl (edg p) _ hrH.out huP.out rfl hiP.out ?_)
        | (refine wpList_store_new rfl 94 _ _ rfl rfl _ (edg p).toArray rfl (by kernel_rfl) rfl (by simp [edg, Value.oneCell']) ?_))
      have cP0 := cell_of (k := 0) (v := .int .i64 (p.1 : Int)) hPP rfl
      have cP1 := cell_of (k := 1) (v := .int .i64 (p.2 : Int)) hPP rfl
      have hsPH : Hid (HSt w l.length A da dc E (hfold l.length (E.take k)).1 (wr.alloc (.cells (edg p).toArray 94))) := hsP
      clear hsP hPP
      generalize wr.alloc (.cells (edg p).toArray 94) = W2 at *
      have hmoreH := hmore
      clear hmore
      generalize hfold l.length (E.take k) = s at *
      obtain ⟨ai, hai⟩ : ∃ ai, ai = s.1.getD p.1 0 := ⟨_, rfl⟩
      obtain ⟨aj, haj⟩ : ∃ aj, aj = s.1.getD p.2 0 := ⟨_, rfl⟩
      obtain ⟨hh, hhh⟩ : ∃ hh, hh = s.2 := ⟨_, rfl⟩
      rw [← hai] at cI bI
      rw [← haj] at cJ bJ
      rw [← hhh] at bH ⊢
      obtain ⟨m, hm⟩ : ∃ m, max aj (ai + 1) = m := ⟨_, rfl⟩
      obtain ⟨m2, hm2⟩ : ∃ m2, max hh (m + 1) = m2 := ⟨_, rfl⟩
      have hst : Hid (hstep s p = (s.1.set p.2 m, m2)) := by show _ = _; unfold hstep; rw [← hai, ← haj, ← hhh, hm, hm2]
      have hmb : 0 ≤ m ∧ m ≤ 70000 := by rw [← hm, Int.max_def]; split <;> omega
      have hw1 : wrap64 (ai + 1) = ai + 1 := by simp only [wrap64]; omega
      have hw2 : wrap64 (m + 1) = m + 1 := by simp only [wrap64]; omega
      have cI1 := cI.1
      have cJ1 := cJ.1
      have cJ2 := cJ.2
      clear hai haj hhh cI cJ
      go_quiet (fail)
      go_wp2_with fail
      go_region
      have hs3 : Hid (HSt w l.length A da dc E (s.1.set p.2 m) ((W2.drewN (nq + 1)).setCell ⟨A, p.2, none⟩ (.int .i64 m))) := (hsPH.out.later (below_drewN (Below.refl _ _) (nq + 1))).set p.2 m
      have cM : ((W2.drewN (nq + 1)).setCell ⟨A, p.2, none⟩ (.int .i64 m)).cell? ⟨A, p.2, none⟩ = some (.int .i64 m) := World.cell?_setCell_same' (W2.drewN (nq + 1)) _ _ (by show ((W2.cell? _).isSome) = true; rw [cJ1]; rfl)
      generalize (W2.drewN (nq + 1)).setCell ⟨A, p.2, none⟩ (.int .i64 m) = W3 at *
      go_wp2
      go_roundw
      case rel => exact ⟨k + 1, by omega, by go_num, by rw [hmoreH.out, hst.out], by rw [hmoreH.out, hst.out]; exact hs3⟩
      case measure => simp [intOf]; omega
    · have hk2 : k = E.length := by omega
      subst hk2
      have hfin : Hid (hfold l.length (E.take E.length) = hfold l.length E) := by show _ = _; rw [List.take_length]
      clear hok1
      go_wp2
      go_ret2
      exact ⟨by rw [hEH.out, ← hfin.out]; rfl, hs.out.b⟩
end Go.Proofs.Ytkadlopcomjonaa.pg
/- A store of one cell, what is left under a name of its own. -/
namespace Go.Proofs.Ytkadlopcomjonaa.pg
open Go.ChangeShapes Go.WideShapes Go.ChangeAt Go.RowKit
set_option linter.unusedVariables false
set_option linter.unusedSimpArgs false
theorem wpList_puti {P : Program} {ops : Array Oper} {rest : List Oper} {o : Oper} {a : Act} {w : World} {Q : Exit → Act → World → Prop} (hgd : o.guard = none) (ty : TypeId) (x y : Operand) (ho : o.op = .store ty x y) (ad : Addr) (hx : a.eval x = .pointer (some ad)) (n : Int) (hy : a.eval y = (.int .i64 n)) (hi : (P.info? ty).map (·.size) = some 1) (v : Value) (hc : w.cell? ad = some v) (hf : w.frozen? ad = false)
    (h : ∀ W', W' = w.setCell ad (.int .i64 n) → wpList P ops Q rest (a.put o.dst undef) W') : wpList P ops Q (o :: rest) a w := wpList_plain hgd fun K hK => by
  have hr : (execOp a.eval o).run P w = .ok .skip (w.setCell ad (.int .i64 n)) := by
    cases hq : P.info? ty with
    | none => simp [hq] at hi
    | some i =>
      have hs : i.size = 1 := by simpa [hq] using hi
      unfold execOp
      simp only [ho, hx, hy]
      simp [Instr.storeAt, Instr.sureAddr, storeVar, sizeOf, typeInfo, hq, hs, Value.cells, go_sem, hc, hf]
  unfold Oper.wp
  rw [hr]
  exact hK _ _ (h _ rfl)
theorem wpList_putb {P : Program} {ops : Array Oper} {rest : List Oper} {o : Oper} {a : Act} {w : World} {Q : Exit → Act → World → Prop} (hgd : o.guard = none) (ty : TypeId) (x y : Operand) (ho : o.op = .store ty x y) (ad : Addr) (hx : a.eval x = .pointer (some ad)) (b : Bool) (hy : a.eval y = (.bool b)) (hi : (P.info? ty).map (·.size) = some 1) (v : Value) (hc : w.cell? ad = some v) (hf : w.frozen? ad = false)
    (h : ∀ W', W' = w.setCell ad (.bool b) → wpList P ops Q rest (a.put o.dst undef) W') : wpList P ops Q (o :: rest) a w := wpList_plain hgd fun K hK => by
  have hr : (execOp a.eval o).run P w = .ok .skip (w.setCell ad (.bool b)) := by
    cases hq : P.info? ty with
    | none => simp [hq] at hi
    | some i =>
      have hs : i.size = 1 := by simpa [hq] using hi
      unfold execOp
      simp only [ho, hx, hy]
      simp [Instr.storeAt, Instr.sureAddr, storeVar, sizeOf, typeInfo, hq, hs, Value.cells, go_sem, hc, hf]
  unfold Oper.wp
  rw [hr]
  exact hK _ _ (h _ rfl)
theorem wpList_puts {P : Program} {ops : Array Oper} {rest : List Oper} {o : Oper} {a : Act} {w : World} {Q : Exit → Act → World → Prop} (hgd : o.guard = none) (ty : TypeId) (x y : Operand) (ho : o.op = .store ty x y) (ad : Addr) (hx : a.eval x = .pointer (some ad)) (g : Option Addr) (n cap : Nat) (hy : a.eval y = (.slice g n cap)) (hi : (P.info? ty).map (·.size) = some 1) (v : Value) (hc : w.cell? ad = some v) (hf : w.frozen? ad = false)
    (h : ∀ W', W' = w.setCell ad (.slice g n cap) → wpList P ops Q rest (a.put o.dst undef) W') : wpList P ops Q (o :: rest) a w := wpList_plain hgd fun K hK => by
  have hr : (execOp a.eval o).run P w = .ok .skip (w.setCell ad (.slice g n cap)) := by
    cases hq : P.info? ty with
    | none => simp [hq] at hi
    | some i =>
      have hs : i.size = 1 := by simpa [hq] using hi
      unfold execOp
      simp only [ho, hx, hy]
      simp [Instr.storeAt, Instr.sureAddr, storeVar, sizeOf, typeInfo, hq, hs, Value.cells, go_sem, hc, hf]
  unfold Oper.wp
  rw [hr]
  exact hK _ _ (h _ rfl)
end Go.Proofs.Ytkadlopcomjonaa.pg
