/- Height of package order. -/
import Derived.Test.YtkhhkgfaakgdfaaM24
import Derived.Lib.MinMax
import Derived.Test.YtkhhkgfaakgdfaaM21
namespace Go.Proofs.Ytkhhkgfaakgdfaa.pg
open Go.ChangeShapes Go.WideShapes Go.ChangeAt Go.RowKit Go.Shelf
set_option linter.unusedVariables false
set_option linter.unusedSimpArgs false
set_option maxRecDepth 100000
attribute [local go_sem ↓] Go.wp_at_zero Go.wp_at_succ
/-- One edge more: how many stand ahead of its later end, and the height. -/
def hstep (s : List Int × Int) (p : Nat × Nat) : List Int × Int := (s.1.set p.2 (max (s.1.getD p.2 0) (s.1.getD p.1 0 + 1)), max s.2 (max (s.1.getD p.2 0) (s.1.getD p.1 0 + 1) + 1))
def hfold (n : Nat) (E : List (Nat × Nat)) : List Int × Int := E.foldl hstep (List.replicate n 0, min 1 n)
theorem hfold_more (n : Nat) (E : List (Nat × Nat)) (p : Nat × Nat) : hfold n (E ++ [p]) = hstep (hfold n E) p := by unfold hfold; rw [List.foldl_append]; rfl
theorem told_pairs (ev : Nat → Ev) (cf : Nat → Ck) (j : Nat) : ∀ (n : Nat) (pre : List { i : Nat // i < j }), pre.length = n → ∀ p ∈ (told ev cf j pre).2, p.1 < j ∧ p.2 = j
  | 0, pre, h => by
    have : pre = [] := List.length_eq_zero_iff.mp h
    subst this
    intro p hp
    simp [told] at hp
  | n + 1, pre, h => by
    rcases List.eq_nil_or_concat pre with rfl | ⟨q, x, rfl⟩
    · simp at h
    · rw [List.concat_eq_append] at h ⊢
      rw [List.length_append, List.length_singleton] at h
      have h1 := told_pairs ev cf j n q (by omega)
      rw [told_more]
      unfold stp
      split
      · exact h1
      · intro p hp
        rw [List.mem_append, List.mem_singleton] at hp
        rcases hp with hp | rfl
        · exact h1 p hp
        · exact ⟨x.2, rfl⟩
theorem rel_pairs (ev : Nat → Ev) : ∀ j, ∀ p ∈ (rel ev j).2, p.1 < p.2 ∧ p.2 < j
  | 0, p, hp => by simp [rel] at hp
  | j + 1, p, hp => by
    rw [rel, List.mem_append] at hp
    rcases hp with hp | hp
    · have := rel_pairs ev j p hp; omega
    · have := told_pairs ev _ j _ _ rfl p hp; omega
/-- Bounds on what the loop knows. -/
def hok (n k : Nat) (s : List Int × Int) : Prop := s.1.length = n ∧ (∀ v ∈ s.1, 0 ≤ v ∧ v ≤ k) ∧ 0 ≤ s.2 ∧ s.2 ≤ (k : Int) + 1
theorem getD_in {s : List Int} {k : Nat} (h : ∀ v ∈ s, 0 ≤ v ∧ v ≤ (k : Int)) (i : Nat) : 0 ≤ s.getD i 0 ∧ s.getD i 0 ≤ k := by
  rw [List.getD_eq_getElem?_getD]
  cases q : s[i]? with
  | none => simp
  | some v => exact h v (List.mem_of_getElem? q)
theorem hok_step {n k : Nat} {s : List Int × Int} (h : hok n k s) (p : Nat × Nat) : hok n (k + 1) (hstep s p) := by
  obtain ⟨h1, h2, h3, h4⟩ := h
  have a := getD_in h2 p.1
  have b := getD_in h2 p.2
  have m : 0 ≤ max (s.1.getD p.2 0) (s.1.getD p.1 0 + 1) ∧ max (s.1.getD p.2 0) (s.1.getD p.1 0 + 1) ≤ (k : Int) + 1 := by rw [Int.max_def]; split <;> omega
  refine ⟨by simp [hstep, h1], fun v hv => ?_, ?_, ?_⟩
  · rcases List.mem_or_eq_of_mem_set hv with q | q
    · have := h2 v q; omega
    · rw [q]; omega
  · show 0 ≤ max s.2 _
    rw [Int.max_def]; split <;> omega
  · show max s.2 _ ≤ _
    rw [Int.max_def]; split <;> omega
theorem hfold_ok (n : Nat) (E : List (Nat × Nat)) : ∀ k, k ≤ E.length → hok n k (hfold n (E.take k))
  | 0, _ => ⟨by simp [hfold], fun v hv => by simp [hfold] at hv; omega, by simp [hfold]; omega, by simp [hfold]; omega⟩
  | k + 1, h => by
    rw [take_one E k E[k] (List.getElem?_eq_getElem (by omega)), hfold_more]
    exact hok_step (hfold_ok n E k (by omega)) _
theorem ix_int (A n : Nat) (j : Nat) (h : j < n) : ∀ wx, (Instr.indexAt 30 (.slice (some ⟨A, 0, none⟩) n n) (.int .i64 (j : Int))).run Try.prog wx = .ok (.pointer (some ⟨A, j, none⟩)) wx := by
  intro wx
  have u := Try.underlying30
  have z := Try.sizeOf3
  have q1 : (j : Int) < n := by omega
  have q2 : ¬ (j : Int) < 0 := by omega
  simp [Instr.indexAt, run_underlying u, asIntOf, go_sem, z, q1, q2, h]
abbrev objInts (s : List Int) : Obj := .cells (s.map fun v => Value.int .i64 v).toArray 3
/-- How far the loop has come. -/
structure HSt (w : World) (n A : Nat) (da : Option Addr) (dc : Nat) (E : List (Nat × Nat)) (s : List Int) (W : World) : Prop where
  a : W.heap[A]? = some (objInts s)
  e : OwnL W w.heap.size 41 2 da dc (E.map edg)
  b : Below w.heap.size w W
  n : ∀ b ∈ blk da, b < A
  l : w.heap.size ≤ A
theorem HSt.later {w : World} {n A : Nat} {da : Option Addr} {dc : Nat} {E : List (Nat × Nat)} {s : List Int} {W W' : World} (h : HSt w n A da dc E s W) (hb : Below W.heap.size W W') : HSt w n A da dc E s W' :=
  ⟨(hb.block _ (Array.getElem?_eq_some_iff.mp h.a).1).trans h.a, own_keep h.e fun b hb' => hb.block b (blk_lt h.e b hb').2, bthen h.b hb, h.n, h.l⟩
theorem HSt.set {w : World} {n A : Nat} {da : Option Addr} {dc : Nat} {E : List (Nat × Nat)} {s : List Int} {W : World} (h : HSt w n A da dc E s W) (j : Nat) (v : Int) : HSt w n A da dc E (s.set j v) (W.setCell ⟨A, j, none⟩ (.int .i64 v)) := by
  rw [setCell_eq_setRow W A j _ _ _ _ h.a]
  refine ⟨?_, own_keep h.e fun b hb' => setRow_other _ _ _ _ (by have := h.n b hb'; omega), below_setRow h.b h.l _, h.n, h.l⟩
  rw [setRow_heap W A _ _ _ _ h.a]
  simp [List.map_set]
theorem HSt.cell {w : World} {n A : Nat} {da : Option Addr} {dc : Nat} {E : List (Nat × Nat)} {s : List Int} {W : World} (h : HSt w n A da dc E s W) {j : Nat} (hj : j < s.length) : W.cell? ⟨A, j, none⟩ = some (.int .i64 (s.getD j 0)) ∧ W.frozen? ⟨A, j, none⟩ = false := by
  refine ⟨cell_of h.a ?_, frozen_of_row _ _ _ _ _ h.a⟩
  rw [List.getD_eq_getElem?_getD, List.getElem?_eq_getElem hj]
  simp [hj]
set_option maxHeartbeats 2000000 in
theorem height_ok (l : List Ev) (la : Option Addr) (lc : Nat) (w : World) (hl : Rows w 26 la lc (l.map Ev.cells)) (hlen : l.length ≤ 256) (hrt : ∀ x ∈ l, rightP x) :
    Calls Try.prog 14 #[.slice la l.length lc] w fun e w' => e = .returned (.tuple #[.int .i64 (hfold l.length (rel (evf l) l.length).2).2, .int .i64 0]) ∧ Below w.heap.size w w' := by
  have c1 : Calls Try.prog 42 #[.slice la l.length lc, .slice none 0 0] w (LookPost l la lc w) := look_any l la lc [] none 0 w hl (rows_nil1 w) hlen hrt (by simp) (by simp)
  have hEl : (rel (evf l) l.length).2.length ≤ 65536 := by have := rel_edges (evf l) l.length hlen; omega
  have hElH : Hid ((rel (evf l) l.length).2.length ≤ 65536) := hEl
  have hlI2 : (l.length : Int) ≤ 256 := by omega
  obtain ⟨iN, hiN, hzN, hsN, hbN⟩ := info_q infoN_u
  have hb8 : iN.bytes * l.length ≤ 281474976710656 := by rw [hbN]; omega
  clear hl hrt hEl
  go_enter Try.func14, Try.ntmps14
  go_wp2_with (first
    | (go_at_call 42; (with_reducible refine c1.mono ?_); rintro e w1 ⟨ca, cc, da, dc, rfl, _, oe', hb'⟩; (have oe : Hid (OwnL (w1.alloc (.cells #[.slice la l.length lc, .slice ca l.length cc, .slice da (rel (evf l) l.length).2.length dc] 78)) w.heap.size 41 2 da dc ((rel (evf l) l.length).2.map edg)) := own_keep oe' fun b hb' => (boxed w1 _).block b (blk_lt oe' b hb').2); (have hb : Hid (Below w.heap.size w (w1.alloc (.cells #[.slice la l.length lc, .slice ca l.length cc, .slice da (rel (evf l) l.length).2.length dc] 78))) := bthen hb' (boxed _ _)); (have hn : (w1.alloc (.cells #[.slice la l.length lc, .slice ca l.length cc, .slice da (rel (evf l) l.length).2.length dc] 78)).heap[w1.heap.size]? = some (.cells #[.slice la l.length lc, .slice ca l.length cc, .slice da (rel (evf l) l.length).2.length dc] 78) := heap_alloc_new _ _); (have hx := cell_of (k := 2) (v := .slice da (rel (evf l) l.length).2.length dc) hn rfl); (have hnH : Hid _ := hn); clear oe' hb' c1 hn)
    | (refine wpList_store_new rfl 78 _ _ rfl rfl _ _ rfl (by kernel_rfl) rfl (one3 _ _ _ _ _ _ _ _ _) ?_)
    | (refine wpList_mk _ rfl _ _ 30 rfl 3 iN (.int .i64 0) Try.underlying30 hiN hzN rfl hsN l.length rfl rfl hb8 (by omega) ?_; intro W hwh hbW hsW; (have hx2 := cell_of (k := 2) (v := .slice da (rel (evf l) l.length).2.length dc) ((hbW.block _ (by rw [World.size_alloc]; omega)).trans hnH.out) rfl)))
  have hA : w1.heap.size + 1 = (w1.alloc (.cells #[.slice la l.length lc, .slice ca l.length cc, .slice da (rel (evf l) l.length).2.length dc] 78)).heap.size := (World.size_alloc _ _).symm
  have hpr : Hid (∀ p ∈ (rel (evf l) l.length).2, p.1 < p.2 ∧ p.2 < l.length) := rel_pairs (evf l) l.length
  have s0 : Hid (HSt w l.length (w1.heap.size + 1) da dc (rel (evf l) l.length).2 (hfold l.length ((rel (evf l) l.length).2.take 0)).1 W) := by
    rw [hA]
    refine ⟨by rw [hwh]; simp [hfold], own_keep oe.out fun b hb' => hbW.block b (blk_lt oe.out b hb').2, bthen hb.out hbW, fun b hb' => (blk_lt oe.out b hb').2, hb.out.size⟩
  have h00 : (hfold l.length ((rel (evf l) l.length).2.take 0)).2 = min 1 (l.length : Int) := rfl
  generalize w1.heap.size + 1 = A at *
  generalize hEE : (rel (evf l) l.length).2 = E at *
  have hEH : Hid ((rel (evf l) l.length).2 = E) := hEE
  clear hwh hbW hsW hA hx hx2 hnH oe hb hEE
  have hEI : (E.length : Int) ≤ 65536 := by have := hElH.out; omega
  go_loopw [6, 29] (fun h u wr => ∃ k : Nat, k ≤ E.length ∧ u = .int .i64 k ∧ h = .int .i64 (hfold l.length (E.take k)).2 ∧ Hid (HSt w l.length A da dc E (hfold l.length (E.take k)).1 wr)) (fun _ u _ => E.length - (intOf u).toNat)
  case atStart => exact ⟨0, Nat.zero_le _, rfl, by rw [h00], s0⟩
  case round =>
    obtain ⟨k, hk, rfl, rfl, hs⟩ := hrel
    have hok1 := hfold_ok l.length E k hk
    by_cases hlt : k < E.length
    · obtain ⟨p, hp, hpm⟩ := get_lt E k hlt
      obtain ⟨p1, p2⟩ := hpr.out p hpm
      have hkI : (k : Int) < E.length := by omega
      have hmore : Hid (hfold l.length (E.take (k + 1)) = hstep (hfold l.length (E.take k)) p) := by show _ = _; rw [take_one E k p hp, hfold_more]
      have hr : Rows wr 2 da dc (E.map edg) := own_rows hs.out.e fun row hm => by rw [List.mem_map] at hm; obtain ⟨y, _, rfl⟩ := hm; rfl
      obtain ⟨b, o, hix, hbl, hrg⟩ := hr.ix 27 41 Try.underlying27 (by kernel_rfl) (fun wx => Try.sizeOf41 wx) k (row := edg p) (by simp [hp])
      rw [List.length_map] at hix
      have hrH : Hid (wr.rangeAt b o (edg p)) := hrg
      have hsP := hs.out.later (boxed wr (.cells (edg p).toArray 41))
      have hPP := heap_alloc_new wr (.cells (edg p).toArray 41)
      have cI := hsP.cell (j := p.1) (by rw [hok1.1]; omega)
      have cJ := hsP.cell (j := p.2) (by rw [hok1.1]; omega)
      have bI := getD_in hok1.2.1 p.1
      have bJ := getD_in hok1.2.1 p.2
      have bH := hok1.2.2
      have xI := ix_int A l.length p.1 (by omega)
      have xJ := ix_int A l.length p.2 p2
      have huP : Hid (Try.prog.underlying 41 = _) := Try.underlying41
      have hiP : Hid ((Try.prog.info? 41).map (·.size) = some 2) := by show _ = _; kernel_rfl
      clear hr hrg hok1
      go_wp2_with (first
        | (refine wpList_load_mid rfl 41 _ rfl b o rfl (edg p) _ hrH.out huP.out rfl hiP.out ?_)
        | (refine wpList_store_new rfl 41 _ _ rfl rfl _ (edg p).toArray rfl (by kernel_rfl) rfl (by simp [edg, Value.oneCell']) ?_))
      have cP0 := cell_of (k := 0) (v := .int .i64 (p.1 : Int)) hPP rfl
      have cP1 := cell_of (k := 1) (v := .int .i64 (p.2 : Int)) hPP rfl
      have hsPH : Hid (HSt w l.length A da dc E (hfold l.length (E.take k)).1 (wr.alloc (.cells (edg p).toArray 41))) := hsP
      clear hsP hPP
      generalize wr.alloc (.cells (edg p).toArray 41) = W2 at *
      have hmoreH := hmore
      clear hmore
      generalize hfold l.length (E.take k) = s at *
      obtain ⟨ai, hai⟩ : ∃ ai, ai = s.1.getD p.1 0 := ⟨_, rfl⟩
      obtain ⟨aj, haj⟩ : ∃ aj, aj = s.1.getD p.2 0 := ⟨_, rfl⟩
      obtain ⟨hh, hhh⟩ : ∃ hh, hh = s.2 := ⟨_, rfl⟩
      rw [← hai] at cI bI
      rw [← haj] at cJ bJ
      rw [← hhh] at bH ⊢
      obtain ⟨m, hm⟩ : ∃ m, max aj (ai + 1) = m := ⟨_, rfl⟩
      obtain ⟨m2, hm2⟩ : ∃ m2, max hh (m + 1) = m2 := ⟨_, rfl⟩
      have hst : Hid (hstep s p = (s.1.set p.2 m, m2)) := by show _ = _; unfold hstep; rw [← hai, ← haj, ← hhh, hm, hm2]
      have hmb : 0 ≤ m ∧ m ≤ 70000 := by rw [← hm, Int.max_def]; split <;> omega
      have hw1 : wrap64 (ai + 1) = ai + 1 := by simp only [wrap64]; omega
      have hw2 : wrap64 (m + 1) = m + 1 := by simp only [wrap64]; omega
      have cI1 := cI.1
      have cJ1 := cJ.1
      have cJ2 := cJ.2
      clear hai haj hhh cI cJ
      go_quiet (fail)
      go_wp2_with fail
      go_region
      have hs3 : Hid (HSt w l.length A da dc E (s.1.set p.2 m) ((W2.drewN (nq + 1)).setCell ⟨A, p.2, none⟩ (.int .i64 m))) := (hsPH.out.later (below_drewN (Below.refl _ _) (nq + 1))).set p.2 m
      have cM : ((W2.drewN (nq + 1)).setCell ⟨A, p.2, none⟩ (.int .i64 m)).cell? ⟨A, p.2, none⟩ = some (.int .i64 m) := World.cell?_setCell_same' (W2.drewN (nq + 1)) _ _ (by show ((W2.cell? _).isSome) = true; rw [cJ1]; rfl)
      generalize (W2.drewN (nq + 1)).setCell ⟨A, p.2, none⟩ (.int .i64 m) = W3 at *
      go_wp2
      go_roundw
      case rel => exact ⟨k + 1, by omega, by go_num, by rw [hmoreH.out, hst.out], by rw [hmoreH.out, hst.out]; exact hs3⟩
      case measure => simp [intOf]; omega
    · have hk2 : k = E.length := by omega
      subst hk2
      have hfin : Hid (hfold l.length (E.take E.length) = hfold l.length E) := by show _ = _; rw [List.take_length]
      clear hok1
      go_wp2
      go_ret2
      exact ⟨by rw [hEH.out, ← hfin.out]; rfl, hs.out.b⟩
end Go.Proofs.Ytkhhkgfaakgdfaa.pg
/- A matrix of truths: the block of its rows, and each row's block. -/
namespace Go.Proofs.Ytkhhkgfaakgdfaa.pg
open Go.ChangeShapes Go.WideShapes Go.ChangeAt Go.RowKit Go.Shelf
set_option linter.unusedVariables false
set_option linter.unusedSimpArgs false
set_option maxRecDepth 100000
def boolRow (n : Nat) (f : Nat → Bool) : Array Value := ((List.range n).map fun j => Value.bool (f j)).toArray
def sliceRow (n k : Nat) (rb : Nat → Nat) : Array Value := ((List.range n).map fun i => if i < k then Value.slice (some ⟨rb i, 0, none⟩) n n else Value.slice none 0 0).toArray
theorem boolRow_at {n : Nat} {f : Nat → Bool} {j : Nat} (h : j < n) : (boolRow n f)[j]? = some (.bool (f j)) := by simp [boolRow, h]
theorem sliceRow_at {n k : Nat} {rb : Nat → Nat} {i : Nat} (h : i < n) : (sliceRow n k rb)[i]? = some (if i < k then Value.slice (some ⟨rb i, 0, none⟩) n n else Value.slice none 0 0) := by simp [sliceRow, h]
theorem boolRow_set {n : Nat} {f : Nat → Bool} {j : Nat} (v : Bool) : (boolRow n f).setIfInBounds j (.bool v) = boolRow n (fun b => if b = j then v else f b) := by
  apply Array.ext'
  simp only [boolRow, Array.toList_setIfInBounds, List.toList_toArray]
  apply List.ext_getElem?
  intro k
  rw [List.getElem?_set]
  simp only [List.length_map, List.length_range, List.getElem?_map]
  by_cases c : j = k
  · subst c
    by_cases h : j < n
    · simp [h, List.getElem?_range]
    · simp [h, List.getElem?_range]
  · rw [if_neg c]
    by_cases h : k < n
    · simp [List.getElem?_range, h, Ne.symm c]
    · simp [List.getElem?_range, h]
theorem sliceRow_set {n k : Nat} {rb : Nat → Nat} {b : Nat} (hk : k < n) (hb : rb k = b) : (sliceRow n k rb).setIfInBounds k (.slice (some ⟨b, 0, none⟩) n n) = sliceRow n (k + 1) rb := by
  subst hb
  apply Array.ext'
  simp only [sliceRow, Array.toList_setIfInBounds, List.toList_toArray]
  apply List.ext_getElem?
  intro q
  rw [List.getElem?_set]
  simp only [List.length_map, List.length_range, List.getElem?_map]
  by_cases c : k = q
  · subst c
    simp [hk, List.getElem?_range]
  · rw [if_neg c]
    by_cases h : q < n
    · simp only [List.getElem?_range h, Option.map_some]
      by_cases h2 : q < k
      · rw [if_pos h2, if_pos (by omega)]
      · rw [if_neg h2, if_neg (by omega)]
    · simp [List.getElem?_range, h]
/-- The first k rows are there. -/
structure Mat (w : World) (lo A n k : Nat) (rb : Nat → Nat) (M : Nat → Nat → Bool) : Prop where
  a : w.heap[A]? = some (.cells (sliceRow n k rb) 52)
  r : ∀ i, i < k → w.heap[rb i]? = some (.cells (boolRow n (M i)) 4)
  inj : ∀ i q, i < k → q < k → rb i = rb q → i = q
  ne : ∀ i, i < k → rb i ≠ A
  lo : lo ≤ A ∧ ∀ i, i < k → lo ≤ rb i
theorem Mat.keep {w w' : World} {lo A n k : Nat} {rb : Nat → Nat} {M : Nat → Nat → Bool} (h : Mat w lo A n k rb M) (hk : ∀ b, (b = A ∨ ∃ i, i < k ∧ b = rb i) → w'.heap[b]? = w.heap[b]?) : Mat w' lo A n k rb M :=
  ⟨(hk A (.inl rfl)).trans h.a, fun i hi => (hk _ (.inr ⟨i, hi, rfl⟩)).trans (h.r i hi), h.inj, h.ne, h.lo⟩
theorem Mat.lt {w : World} {lo A n k : Nat} {rb : Nat → Nat} {M : Nat → Nat → Bool} (h : Mat w lo A n k rb M) : A < w.heap.size ∧ ∀ i, i < k → rb i < w.heap.size :=
  ⟨(Array.getElem?_eq_some_iff.mp h.a).1, fun i hi => (Array.getElem?_eq_some_iff.mp (h.r i hi)).1⟩
theorem Mat.later {w w' : World} {lo A n k : Nat} {rb : Nat → Nat} {M : Nat → Nat → Bool} (h : Mat w lo A n k rb M) (hb : Below w.heap.size w w') : Mat w' lo A n k rb M :=
  h.keep fun b hb' => hb.block b (by rcases hb' with e | ⟨i, hi, e⟩ <;> rw [e]; exact h.lt.1; exact h.lt.2 i hi)
theorem Mat.congr {w : World} {lo A n k : Nat} {rb : Nat → Nat} {M M' : Nat → Nat → Bool} (h : Mat w lo A n k rb M) (he : ∀ i j, i < k → j < n → M i j = M' i j) : Mat w lo A n k rb M' :=
  ⟨h.a, fun i hi => by
    rw [h.r i hi]
    congr 2
    unfold boolRow
    congr 1
    apply List.map_congr_left
    intro j hj
    rw [he i j hi (List.mem_range.mp hj)], h.inj, h.ne, h.lo⟩
theorem Mat.mono {w : World} {lo lo2 A n k : Nat} {rb : Nat → Nat} {M : Nat → Nat → Bool} (h : Mat w lo A n k rb M) (hl : lo2 ≤ lo) : Mat w lo2 A n k rb M :=
  ⟨h.a, h.r, h.inj, h.ne, Nat.le_trans hl h.lo.1, fun i hi => Nat.le_trans hl (h.lo.2 i hi)⟩
theorem Mat.row {w : World} {lo A n k : Nat} {rb : Nat → Nat} {M : Nat → Nat → Bool} (h : Mat w lo A n k rb M) {i : Nat} (hi : i < k) (hn : i < n) : w.cell? ⟨A, i, none⟩ = some (.slice (some ⟨rb i, 0, none⟩) n n) :=
  cell_of h.a (by rw [sliceRow_at hn, if_pos hi])
theorem Mat.cell {w : World} {lo A n k : Nat} {rb : Nat → Nat} {M : Nat → Nat → Bool} (h : Mat w lo A n k rb M) {i j : Nat} (hi : i < k) (hj : j < n) : w.cell? ⟨rb i, j, none⟩ = some (.bool (M i j)) ∧ w.frozen? ⟨rb i, j, none⟩ = false :=
  ⟨cell_of (h.r i hi) (boolRow_at hj), frozen_of_row _ _ _ _ _ (h.r i hi)⟩
theorem Mat.set {w : World} {lo A n k : Nat} {rb : Nat → Nat} {M : Nat → Nat → Bool} (h : Mat w lo A n k rb M) {i : Nat} (hi : i < k) (j : Nat) (v : Bool) : Mat (w.setCell ⟨rb i, j, none⟩ (.bool v)) lo A n k rb (fun a b => if a = i ∧ b = j then v else M a b) := by
  rw [setCell_eq_setRow w (rb i) j _ _ _ _ (h.r i hi)]
  refine ⟨(setRow_other _ _ _ _ (Ne.symm (h.ne i hi))).trans h.a, fun q hq => ?_, h.inj, h.ne, h.lo⟩
  by_cases c : q = i
  · subst c
    rw [setRow_heap w (rb q) _ _ _ _ (h.r q hi), boolRow_set]
    congr 3
    funext b
    by_cases e : b = j <;> simp [e]
  · rw [setRow_other _ _ _ _ (fun e => c (h.inj q i hq hi e)), h.r q hq]
    congr 3
    funext b
    simp [c]
theorem Mat.below {w w' : World} {n₀ lo A n k : Nat} {rb : Nat → Nat} {M : Nat → Nat → Bool} {i j : Nat} {v : Value} (h : Mat w' lo A n k rb M) (hi : i < k) (hl : n₀ ≤ lo) (hb : Below n₀ w w') : Below n₀ w (w'.setCell ⟨rb i, j, none⟩ v) := by
  rw [setCell_eq_setRow w' (rb i) j _ _ _ _ (h.r i hi)]
  exact below_setRow hb (Nat.le_trans hl (h.lo.2 i hi)) _
/-- A new row. -/
theorem Mat.more {w w' : World} {lo A n k b : Nat} {rb : Nat → Nat} {M : Nat → Nat → Bool} (h : Mat w lo A n k rb M) (hk : k < n) (hlo : lo ≤ b) (hb : w.heap.size ≤ b) (hw : Below w.heap.size w w') (hr : w'.heap[b]? = some (.cells (boolRow n fun _ => false) 4)) :
    Mat (w'.setCell ⟨A, k, none⟩ (.slice (some ⟨b, 0, none⟩) n n)) lo A n (k + 1) (fun i => if i = k then b else rb i) (fun i j => if i = k then false else M i j) := by
  have h' := h.later hw
  have hlt := h.lt
  rw [setCell_eq_setRow w' A k _ _ _ _ h'.a]
  have hAb : A ≠ b := by have := hlt.1; omega
  refine ⟨?_, fun i hi => ?_, fun i q hi hq e => ?_, fun i hi => ?_, h.lo.1, fun i hi => ?_⟩
  · rw [setRow_heap w' A _ _ _ _ h'.a]
    have e : sliceRow n k rb = sliceRow n k (fun i => if i = k then b else rb i) := by
      unfold sliceRow
      congr 1
      apply List.map_congr_left
      intro q _
      by_cases c : q < k
      · rw [if_pos c, if_pos c]
        have : ¬ q = k := by omega
        simp only [this, if_false]
      · rw [if_neg c, if_neg c]
    rw [e, sliceRow_set hk (by simp)]
  · by_cases c : i = k
    · subst c
      simp only [if_true]
      rw [setRow_other _ _ _ _ (Ne.symm hAb)]
      exact hr
    · have hik : i < k := by omega
      simp only [if_neg c]
      rw [setRow_other _ _ _ _ (h.ne i hik)]
      exact h'.r i hik
  · by_cases c1 : i = k
    · by_cases c2 : q = k
      · omega
      · simp only [c1, if_true, if_neg c2] at e
        have := hlt.2 q (by omega); omega
    · by_cases c2 : q = k
      · simp only [c2, if_true, if_neg c1] at e
        have := hlt.2 i (by omega); omega
      · simp only [if_neg c1, if_neg c2] at e
        exact h.inj i q (by omega) (by omega) e
  · by_cases c : i = k
    · simp only [c, if_true]; exact Ne.symm hAb
    · simp only [if_neg c]; exact h.ne i (by omega)
  · by_cases c : i = k
    · simp only [c, if_true]; exact hlo
    · simp only [if_neg c]; exact h.lo.2 i (by omega)
theorem mat_new {w : World} {lo A n : Nat} (h : w.heap[A]? = some (.cells (List.replicate n (Value.slice none 0 0)).toArray 52 (0, 0))) (hl : lo ≤ A) : Mat w lo A n 0 (fun _ => 0) (fun _ _ => false) := by
  refine ⟨?_, fun i hi => by omega, fun i q hi => by omega, fun i hi => by omega, hl, fun i hi => by omega⟩
  rw [h]
  congr 2
  apply Array.ext'
  simp only [sliceRow, List.toList_toArray]
  apply List.ext_getElem?
  intro k
  by_cases c : k < n
  · simp [c, List.getElem?_range, List.getElem?_replicate]
  · simp [c, List.getElem?_range, List.getElem?_replicate]
theorem boolRow_new (n : Nat) : (List.replicate n (Value.bool false)).toArray = boolRow n fun _ => false := by
  apply Array.ext'
  simp only [boolRow, List.toList_toArray]
  apply List.ext_getElem?
  intro k
  by_cases c : k < n
  · simp [c, List.getElem?_range, List.getElem?_replicate]
  · simp [c, List.getElem?_range, List.getElem?_replicate]
theorem ix_row (A n : Nat) (j : Nat) (h : j < n) : ∀ wx, (Instr.indexAt 49 (.slice (some ⟨A, 0, none⟩) n n) (.int .i64 (j : Int))).run Try.prog wx = .ok (.pointer (some ⟨A, j, none⟩)) wx := by
  intro wx
  have u := Try.underlying49
  have z := Try.sizeOf52
  have q1 : (j : Int) < n := by omega
  have q2 : ¬ (j : Int) < 0 := by omega
  simp [Instr.indexAt, run_underlying u, asIntOf, go_sem, z, q1, q2, h]
theorem ix_bool (A n : Nat) (j : Nat) (h : j < n) : ∀ wx, (Instr.indexAt 52 (.slice (some ⟨A, 0, none⟩) n n) (.int .i64 (j : Int))).run Try.prog wx = .ok (.pointer (some ⟨A, j, none⟩)) wx := by
  intro wx
  have u := Try.underlying52
  have z := Try.sizeOf4
  have q1 : (j : Int) < n := by omega
  have q2 : ¬ (j : Int) < 0 := by omega
  simp [Instr.indexAt, run_underlying u, asIntOf, go_sem, z, q1, q2, h]
theorem infoBl : (Try.prog.info? 4).map (fun i => (i.zero, i.size, i.bytes)) = some (some (.bool false), 1, 1) := by kernel_rfl
theorem infoSb : (Try.prog.info? 52).map (fun i => (i.zero, i.size, i.bytes)) = some (some (.slice none 0 0), 1, 24) := by kernel_rfl
end Go.Proofs.Ytkhhkgfaakgdfaa.pg
