/- Clocks and Before of package order, whole. -/
import Derived.Test.YtafefnkgdnmjbaaGreatDoorM19
import Derived.Lib.MinMax
import Derived.Test.YtafefnkgdnmjbaaGreatDoorM16
namespace Go.Proofs.YtafefnkgdnmjbaaGreatDoor.pg
open Go.ChangeShapes Go.WideShapes Go.ChangeAt Go.RowKit Go.Shelf
set_option linter.unusedVariables false
set_option linter.unusedSimpArgs false
set_option maxRecDepth 100000
attribute [local go_sem ↓] Go.wp_at_zero Go.wp_at_succ
theorem rows_nil1 (w : World) : Rows w 1 none 0 (([] : List Int).map chCells) := ⟨by simp, by omega, fun _ => ⟨rfl, rfl⟩, .inl rfl⟩
theorem infoR3 (ea : Option Addr) (en ec : Nat) (ca : Option Addr) (cn cc : Nat) (da : Option Addr) (dl dc : Nat) : (Tryz.prog.info? 138).map (·.size) = some ([.slice ea en ec, .slice ca cn cc, .slice da dl dc] : List Value).length := infoR
set_option maxHeartbeats 1000000 in
theorem clocks_ok (l : List Ev) (la : Option Addr) (lc : Nat) (w : World) (hl : Rows w 26 la lc (l.map Ev.cells)) (hlen : l.length ≤ 256) (hrt : ∀ x ∈ l, rightP x) :
    Calls Tryz.prog 59 #[.slice la l.length lc] w fun e w' => ∃ ca cc, e = .returned (.tuple #[.slice ca l.length cc, .int .i64 0]) ∧ OwnL w' w.heap.size 114 6 ca cc ((rel (evf l) l.length).1.map Ck.cells) ∧ Below w.heap.size w w' := by
  have c1 : Calls Tryz.prog 79 #[.slice la l.length lc, .slice none 0 0] w (LookPost l la lc w) := look_any l la lc [] none 0 w hl (rows_nil1 w) hlen hrt (by simp) (by simp)
  clear hl hrt
  go_enter Tryz.func59, Tryz.ntmps59
  go_wp2_with (first
    | (go_at_call 79; (with_reducible refine c1.mono ?_); rintro e w1 ⟨ca, cc, da, dc, rfl, ow', _, hb'⟩; (have ow : Hid (OwnL w1 w.heap.size 114 6 ca cc ((rel (evf l) l.length).1.map Ck.cells)) := ow'); (have hb : Hid (Below w.heap.size w w1) := hb'); (have hx : (w1.alloc (.cells #[.slice la l.length lc, .slice ca l.length cc, .slice da (rel (evf l) l.length).2.length dc] 138)).cell? ⟨w1.heap.size, 1, none⟩ = some (.slice ca l.length cc) := cell_of (heap_alloc_new _ _) rfl); clear ow' hb' c1)
    | (refine wpList_store_new rfl 138 _ _ rfl rfl _ _ rfl (by kernel_rfl) rfl (one3 _ _ _ _ _ _ _ _ _) ?_))
  go_ret2
  exact ⟨ca, cc, rfl, own_keep ow.out fun b hb' => (boxed w1 _).block b (blk_lt ow.out b hb').2, bthen hb.out (boxed _ _)⟩
set_option maxHeartbeats 1000000 in
theorem clocks_bad (l : List Ev) (la : Option Addr) (lc : Nat) (w : World) (hl : Rows w 26 la lc (l.map Ev.cells)) (c : Int) (hc : checkP l c) (h0 : c = 2 ∨ c = 7) :
    Calls Tryz.prog 59 #[.slice la l.length lc] w fun e w' => e = .returned (.tuple #[.slice none 0 0, .int .i64 c]) ∧ Below w.heap.size w w' := by
  have c1 := look_bad l la lc (.slice none 0 0) w hl c hc h0
  have hx : ∀ w1 : World, (w1.alloc (.cells #[.slice none 0 0, .slice none 0 0, .slice none 0 0] 138)).cell? ⟨w1.heap.size, 1, none⟩ = some (.slice none 0 0) := fun w1 => cell_of (heap_alloc_new _ _) rfl
  clear hl hc h0
  go_enter Tryz.func59, Tryz.ntmps59
  go_wp2_with (first
    | (go_at_call 79; (with_reducible refine c1.mono ?_); rintro e w1 ⟨rfl, hb'⟩; (have hb : Hid (Below w.heap.size w w1) := hb'); (have hx1 := hx w1); clear hb' c1)
    | (refine wpList_store_new rfl 138 _ _ rfl rfl _ _ rfl (by kernel_rfl) rfl (one3 _ _ _ _ _ _ _ _ _) ?_))
  go_ret2
  exact ⟨rfl, bthen hb.out (boxed _ _)⟩
end Go.Proofs.YtafefnkgdnmjbaaGreatDoor.pg
/- Edges of package order. -/
namespace Go.Proofs.YtafefnkgdnmjbaaGreatDoor.pg
open Go.ChangeShapes Go.WideShapes Go.ChangeAt Go.RowKit Go.Shelf
set_option linter.unusedVariables false
set_option linter.unusedSimpArgs false
set_option maxRecDepth 100000
attribute [local go_sem ↓] Go.wp_at_zero Go.wp_at_succ
set_option maxHeartbeats 1000000 in
theorem ins_nil (w : World) : Calls Tryz.prog 162 #[.slice none 0 0, .int .i64 0, .int .i64 0, .func (.func 121) #[] #[]] w fun e w' => (∃ v, e = .returned v) ∧ w' = w := by
  go_enter Tryz.func162, Tryz.ntmps162
  go_wp2
  go_loopw [8] (fun u wr => u = .int .i64 1 ∧ wr = w) (fun _ _ => 0)
  case atStart => exact ⟨rfl, rfl⟩
  case round =>
    obtain ⟨rfl, rfl⟩ := hrel
    go_wp2
    go_end0
    exact ⟨⟨_, rfl⟩, rfl⟩
set_option maxHeartbeats 1000000 in
theorem pdq_nil (n : Int) (w : World) : Calls Tryz.prog 150 #[.slice none 0 0, .int .i64 0, .int .i64 0, .int .i64 n, .func (.func 121) #[] #[]] w fun e w' => (∃ v, e = .returned v) ∧ w' = w := by
  have c1 := ins_nil w
  go_enter Tryz.func150, Tryz.ntmps150
  go_wp2_with fail
  refine wp_loop_once ?_
  go_wp2_with (go_at_call 162; (with_reducible refine c1.mono ?_); rintro e w' ⟨⟨v, rfl⟩, rfl⟩)
  exact bodyPost_ret (results_none rfl _ _ _) rfl ⟨⟨_, rfl⟩, rfl⟩
theorem len0 (w : World) : Calls Tryz.prog 99 #[.int .u64 0] w fun e w' => (∃ n, e = .returned (.int .i64 n)) ∧ w' = w := by
  have h := Tryz.bits_Len 0 w (by omega) (by omega)
  exact h.mono fun e w' ⟨he, hw⟩ => ⟨⟨_, he⟩, hw⟩
set_option maxHeartbeats 1000000 in
theorem sort_nil (w : World) : Calls Tryz.prog 120 #[.slice none 0 0, .func (.func 121) #[] #[]] w fun e w' => (∃ v, e = .returned v) ∧ w' = w := by
  have c1 := len0 w
  have c2 := fun n => pdq_nil n w
  go_enter Tryz.func120, Tryz.ntmps120
  go_wp2_with (first | (go_at_call 99; (with_reducible refine c1.mono ?_); rintro e w' ⟨⟨v, rfl⟩, rfl⟩) | (go_at_call 150; (with_reducible refine (c2 _).mono ?_); rintro e w' ⟨⟨v2, rfl⟩, rfl⟩))
  go_end0
  exact ⟨⟨_, rfl⟩, rfl⟩
theorem own_nil_is {w : World} {lo e k cap : Nat} {L : List (List Value)} (h : OwnL w lo e k none cap L) : L = [] ∧ cap = 0 := by
  rcases own_block h with ⟨_, h1, h2⟩ | ⟨g, h1, _⟩
  · exact ⟨List.length_eq_zero_iff.mp h1, h2⟩
  · cases h1
/-- Sorting a list of the call's own, nil too. -/
theorem sortE_any (da : Option Addr) (cap lo : Nat) (E : List (Nat × Nat)) (w : World) (hE : OwnL w lo 71 2 da cap (E.map edg)) (hlen : E.length ≤ 65536) :
    Calls Tryz.prog 120 #[.slice da E.length cap, .func (.func 121) #[] #[]] w fun e w' => (∃ v, e = .returned v) ∧ ∃ D : List (Nat × Nat), D.Perm E ∧ D.Pairwise lex ∧ Rows w' 2 da cap (D.map edg) ∧ (∀ b, b < w.heap.size → b ∉ blk da → w'.heap[b]? = w.heap[b]?) ∧ Below lo w w' := by
  cases da with
  | none =>
    obtain ⟨h1, rfl⟩ := own_nil_is hE
    have hE0 : E = [] := by simpa using h1
    subst hE0
    exact (sort_nil w).mono fun e w' ⟨hv, hw⟩ => ⟨hv, [], .refl _, .nil, by rw [hw]; exact ⟨by simp, by omega, fun _ => ⟨rfl, rfl⟩, .inl rfl⟩, fun b _ _ => by rw [hw], by rw [hw]; exact Below.refl _ _⟩
  | some ad =>
    rcases own_block hE with ⟨h1, _⟩ | ⟨g, h1, h2, h3⟩
    · cases h1
    · cases h1
      exact (sort_any g cap lo E w hE hlen).mono fun e w' ⟨he, D, q1, q2, q3, q4, q5⟩ => ⟨⟨_, he⟩, D, q1, q2, q3, fun b b1 b2 => q4 b b1 fun q => b2 (by simp [blk, q]), q5⟩
set_option maxHeartbeats 1000000 in
theorem edges_ok (l : List Ev) (la : Option Addr) (lc : Nat) (w : World) (hl : Rows w 26 la lc (l.map Ev.cells)) (hlen : l.length ≤ 256) (hrt : ∀ x ∈ l, rightP x) :
    Calls Tryz.prog 89 #[.slice la l.length lc] w fun e w' => ∃ da dc, ∃ D : List (Nat × Nat), e = .returned (.tuple #[.slice da D.length dc, .int .i64 0]) ∧ D.Perm (rel (evf l) l.length).2 ∧ D.Pairwise lex ∧ Rows w' 2 da dc (D.map edg) ∧ Below w.heap.size w w' := by
  have c1 : Calls Tryz.prog 79 #[.slice la l.length lc, .slice none 0 0] w (LookPost l la lc w) := look_any l la lc [] none 0 w hl (rows_nil1 w) hlen hrt (by simp) (by simp)
  have hEl : (rel (evf l) l.length).2.length ≤ 65536 := by have := rel_edges (evf l) l.length hlen; omega
  have hElH : Hid ((rel (evf l) l.length).2.length ≤ 65536) := hEl
  clear hl hrt hEl
  go_enter Tryz.func89, Tryz.ntmps89
  go_wp2_with (first
    | (go_at_call 79; (with_reducible refine c1.mono ?_); rintro e w1 ⟨ca, cc, da, dc, rfl, _, oe', hb'⟩; (have oe : Hid (OwnL (w1.alloc (.cells #[.slice la l.length lc, .slice ca l.length cc, .slice da (rel (evf l) l.length).2.length dc] 138)) w.heap.size 71 2 da dc ((rel (evf l) l.length).2.map edg)) := own_keep oe' fun b hb' => (boxed w1 _).block b (blk_lt oe' b hb').2); (have hb : Hid (Below w.heap.size w (w1.alloc (.cells #[.slice la l.length lc, .slice ca l.length cc, .slice da (rel (evf l) l.length).2.length dc] 138))) := bthen hb' (boxed _ _)); (have hn : (w1.alloc (.cells #[.slice la l.length lc, .slice ca l.length cc, .slice da (rel (evf l) l.length).2.length dc] 138)).heap[w1.heap.size]? = some (.cells #[.slice la l.length lc, .slice ca l.length cc, .slice da (rel (evf l) l.length).2.length dc] 138) := heap_alloc_new _ _); (have hx := cell_of (k := 2) (v := .slice da (rel (evf l) l.length).2.length dc) hn rfl); (have hnb : Hid (w1.heap.size ∉ blk da) := fun q => by have := (blk_lt oe' _ q).2; omega); (have hnH : Hid _ := hn); clear oe' hb' c1 hn)
    | (refine wpList_store_new rfl 138 _ _ rfl rfl _ _ rfl (by kernel_rfl) rfl (one3 _ _ _ _ _ _ _ _ _) ?_)
    | (go_at_call 120; (refine (sortE_any da dc w.heap.size _ _ oe.out hElH.out).mono ?_); rintro e w2 ⟨⟨v, rfl⟩, D, q1, q2, q3, q4, q5⟩; (have hx2 := cell_of (k := 2) (v := .slice da (rel (evf l) l.length).2.length dc) ((q4 _ (by rw [World.size_alloc]; omega) hnb.out).trans hnH.out) rfl); (have qH : Hid (D.Perm (rel (evf l) l.length).2 ∧ D.Pairwise lex ∧ Rows w2 2 da dc (D.map edg) ∧ Below w.heap.size w w2) := ⟨q1, q2, q3, hb.out.trans q5⟩); clear q1 q2 q3 q4 q5))
  go_ret2
  exact ⟨da, dc, D, by rw [qH.out.1.length_eq]; rfl, qH.out⟩
end Go.Proofs.YtafefnkgdnmjbaaGreatDoor.pg
/- Height of package order. -/
namespace Go.Proofs.YtafefnkgdnmjbaaGreatDoor.pg
open Go.ChangeShapes Go.WideShapes Go.ChangeAt Go.RowKit Go.Shelf
set_option linter.unusedVariables false
set_option linter.unusedSimpArgs false
set_option maxRecDepth 100000
attribute [local go_sem ↓] Go.wp_at_zero Go.wp_at_succ
/-- One edge more: how many stand ahead of its later end, and the height. -/
def hstep (s : List Int × Int) (p : Nat × Nat) : List Int × Int := (s.1.set p.2 (max (s.1.getD p.2 0) (s.1.getD p.1 0 + 1)), max s.2 (max (s.1.getD p.2 0) (s.1.getD p.1 0 + 1) + 1))
def hfold (n : Nat) (E : List (Nat × Nat)) : List Int × Int := E.foldl hstep (List.replicate n 0, min 1 n)
theorem hfold_more (n : Nat) (E : List (Nat × Nat)) (p : Nat × Nat) : hfold n (E ++ [p]) = hstep (hfold n E) p := by unfold hfold; rw [List.foldl_append]; rfl
theorem told_pairs (ev : Nat → Ev) (cf : Nat → Ck) (j : Nat) : ∀ (n : Nat) (pre : List { i : Nat // i < j }), pre.length = n → ∀ p ∈ (told ev cf j pre).2, p.1 < j ∧ p.2 = j
  | 0, pre, h => by
    have : pre = [] := List.length_eq_zero_iff.mp h
    subst this
    intro p hp
    simp [told] at hp
  | n + 1, pre, h => by
    rcases List.eq_nil_or_concat pre with rfl | ⟨q, x, rfl⟩
    · simp at h
    · rw [List.concat_eq_append] at h ⊢
      rw [List.length_append, List.length_singleton] at h
      have h1 := told_pairs ev cf j n q (by omega)
      rw [told_more]
      unfold stp
      split
      · exact h1
      · intro p hp
        rw [List.mem_append, List.mem_singleton] at hp
        rcases hp with hp | rfl
        · exact h1 p hp
        · exact ⟨x.2, rfl⟩
theorem rel_pairs (ev : Nat → Ev) : ∀ j, ∀ p ∈ (rel ev j).2, p.1 < p.2 ∧ p.2 < j
  | 0, p, hp => by simp [rel] at hp
  | j + 1, p, hp => by
    rw [rel, List.mem_append] at hp
    rcases hp with hp | hp
    · have := rel_pairs ev j p hp; omega
    · have := told_pairs ev _ j _ _ rfl p hp; omega
/-- Bounds on what the loop knows. -/
def hok (n k : Nat) (s : List Int × Int) : Prop := s.1.length = n ∧ (∀ v ∈ s.1, 0 ≤ v ∧ v ≤ k) ∧ 0 ≤ s.2 ∧ s.2 ≤ (k : Int) + 1
theorem getD_in {s : List Int} {k : Nat} (h : ∀ v ∈ s, 0 ≤ v ∧ v ≤ (k : Int)) (i : Nat) : 0 ≤ s.getD i 0 ∧ s.getD i 0 ≤ k := by
  rw [List.getD_eq_getElem?_getD]
  cases q : s[i]? with
  | none => simp
  | some v => exact h v (List.mem_of_getElem? q)
theorem hok_step {n k : Nat} {s : List Int × Int} (h : hok n k s) (p : Nat × Nat) : hok n (k + 1) (hstep s p) := by
  obtain ⟨h1, h2, h3, h4⟩ := h
  have a := getD_in h2 p.1
  have b := getD_in h2 p.2
  have m : 0 ≤ max (s.1.getD p.2 0) (s.1.getD p.1 0 + 1) ∧ max (s.1.getD p.2 0) (s.1.getD p.1 0 + 1) ≤ (k : Int) + 1 := by rw [Int.max_def]; split <;> omega
  refine ⟨by simp [hstep, h1], fun v hv => ?_, ?_, ?_⟩
  · rcases List.mem_or_eq_of_mem_set hv with q | q
    · have := h2 v q; omega
    · rw [q]; omega
  · show 0 ≤ max s.2 _
    rw [Int.max_def]; split <;> omega
  · show max s.2 _ ≤ _
    rw [Int.max_def]; split <;> omega
theorem hfold_ok (n : Nat) (E : List (Nat × Nat)) : ∀ k, k ≤ E.length → hok n k (hfold n (E.take k))
  | 0, _ => ⟨by simp [hfold], fun v hv => by simp [hfold] at hv; omega, by simp [hfold]; omega, by simp [hfold]; omega⟩
  | k + 1, h => by
    rw [take_one E k E[k] (List.getElem?_eq_getElem (by omega)), hfold_more]
    exact hok_step (hfold_ok n E k (by omega)) _
theorem ix_int (A n : Nat) (j : Nat) (h : j < n) : ∀ wx, (Instr.indexAt 33 (.slice (some ⟨A, 0, none⟩) n n) (.int .i64 (j : Int))).run Tryz.prog wx = .ok (.pointer (some ⟨A, j, none⟩)) wx := by
  intro wx
  have u := Tryz.underlying33
  have z := Tryz.sizeOf3
  have q1 : (j : Int) < n := by omega
  have q2 : ¬ (j : Int) < 0 := by omega
  simp [Instr.indexAt, run_underlying u, asIntOf, go_sem, z, q1, q2, h]
abbrev objInts (s : List Int) : Obj := .cells (s.map fun v => Value.int .i64 v).toArray 3
/-- How far the loop has come. -/
structure HSt (w : World) (n A : Nat) (da : Option Addr) (dc : Nat) (E : List (Nat × Nat)) (s : List Int) (W : World) : Prop where
  a : W.heap[A]? = some (objInts s)
  e : OwnL W w.heap.size 71 2 da dc (E.map edg)
  b : Below w.heap.size w W
  n : ∀ b ∈ blk da, b < A
  l : w.heap.size ≤ A
theorem HSt.later {w : World} {n A : Nat} {da : Option Addr} {dc : Nat} {E : List (Nat × Nat)} {s : List Int} {W W' : World} (h : HSt w n A da dc E s W) (hb : Below W.heap.size W W') : HSt w n A da dc E s W' :=
  ⟨(hb.block _ (Array.getElem?_eq_some_iff.mp h.a).1).trans h.a, own_keep h.e fun b hb' => hb.block b (blk_lt h.e b hb').2, bthen h.b hb, h.n, h.l⟩
theorem HSt.set {w : World} {n A : Nat} {da : Option Addr} {dc : Nat} {E : List (Nat × Nat)} {s : List Int} {W : World} (h : HSt w n A da dc E s W) (j : Nat) (v : Int) : HSt w n A da dc E (s.set j v) (W.setCell ⟨A, j, none⟩ (.int .i64 v)) := by
  rw [setCell_eq_setRow W A j _ _ _ _ h.a]
  refine ⟨?_, own_keep h.e fun b hb' => setRow_other _ _ _ _ (by have := h.n b hb'; omega), below_setRow h.b h.l _, h.n, h.l⟩
  rw [setRow_heap W A _ _ _ _ h.a]
  simp [List.map_set]
theorem HSt.cell {w : World} {n A : Nat} {da : Option Addr} {dc : Nat} {E : List (Nat × Nat)} {s : List Int} {W : World} (h : HSt w n A da dc E s W) {j : Nat} (hj : j < s.length) : W.cell? ⟨A, j, none⟩ = some (.int .i64 (s.getD j 0)) ∧ W.frozen? ⟨A, j, none⟩ = false := by
  refine ⟨cell_of h.a ?_, frozen_of_row _ _ _ _ _ h.a⟩
  rw [List.getD_eq_getElem?_getD, List.getElem?_eq_getElem hj]
  simp [hj]
end Go.Proofs.YtafefnkgdnmjbaaGreatDoor.pg
