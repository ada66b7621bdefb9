/- Height of package order. -/
import Derived.Test.YtkhhkgfaakgdfaaM24
import Derived.Lib.MinMax
import Derived.Test.YtkhhkgfaakgdfaaM21
import Derived.Test.YtkhhkgfaakgdfaaM14
namespace Go.Proofs.Ytkhhkgfaakgdfaa.pg
open Go.ChangeShapes Go.WideShapes Go.ChangeAt Go.RowKit Go.Shelf
set_option linter.unusedVariables false
set_option linter.unusedSimpArgs false
set_option maxRecDepth 100000
attribute [local go_sem ↓] Go.wp_at_zero Go.wp_at_succ
/-- One edge more: how many stand ahead of its later end, and the height. -/
def hstep (s : List Int × Int) (p : Nat × Nat) : List Int × Int := (s.1.set p.2 (max (s.1.getD p.2 0) (s.1.getD p.1 0 + 1)), max s.2 (max (s.1.getD p.2 0) (s.1.getD p.1 0 + 1) + 1))
def hfold (n : Nat) (E : List (Nat × Nat)) : List Int × Int := E.foldl hstep (List.replicate n 0, min 1 n)
theorem hfold_more (n : Nat) (E : List (Nat × Nat)) (p : Nat × Nat) : hfold n (E ++ [p]) = hstep (hfold n E) p := by unfold hfold; rw [List.foldl_append]; rfl
theorem told_pairs (ev : Nat → Ev) (cf : Nat → Ck) (j : Nat) : ∀ (n : Nat) (pre : List { i : Nat // i < j }), pre.length = n → ∀ p ∈ (told ev cf j pre).2, p.1 < j ∧ p.2 = j
  | 0, pre, h => by
    have : pre = [] := List.length_eq_zero_iff.mp h
    subst this
    intro p hp
    simp [told] at hp
  | n + 1, pre, h => by
    rcases List.eq_nil_or_concat pre with rfl | ⟨q, x, rfl⟩
    · simp at h
    · rw [List.concat_eq_append] at h ⊢
      rw [List.length_append, List.length_singleton] at h
      have h1 := told_pairs ev cf j n q (by omega)
      rw [told_more]
      unfold stp
      split
      · exact h1
      · intro p hp
        rw [List.mem_append, List.mem_singleton] at hp
        rcases hp with hp | rfl
        · exact h1 p hp
        · exact ⟨x.2, rfl⟩
theorem rel_pairs (ev : Nat → Ev) : ∀ j, ∀ p ∈ (rel ev j).2, p.1 < p.2 ∧ p.2 < j
  | 0, p, hp => by simp [rel] at hp
  | j + 1, p, hp => by
    rw [rel, List.mem_append] at hp
    rcases hp with hp | hp
    · have := rel_pairs ev j p hp; omega
    · have := told_pairs ev _ j _ _ rfl p hp; omega
/-- Bounds on what the loop knows. -/
def hok (n k : Nat) (s : List Int × Int) : Prop := s.1.length = n ∧ (∀ v ∈ s.1, 0 ≤ v ∧ v ≤ k) ∧ 0 ≤ s.2 ∧ s.2 ≤ (k : Int) + 1
theorem getD_in {s : List Int} {k : Nat} (h : ∀ v ∈ s, 0 ≤ v ∧ v ≤ (k : Int)) (i : Nat) : 0 ≤ s.getD i 0 ∧ s.getD i 0 ≤ k := by
  rw [List.getD_eq_getElem?_getD]
  cases q : s[i]? with
  | none => simp
  | some v => exact h v (List.mem_of_getElem? q)
theorem hok_step {n k : Nat} {s : List Int × Int} (h : hok n k s) (p : Nat × Nat) : hok n (k + 1) (hstep s p) := by
  obtain ⟨h1, h2, h3, h4⟩ := h
  have a := getD_in h2 p.1
  have b := getD_in h2 p.2
  have m : 0 ≤ max (s.1.getD p.2 0) (s.1.getD p.1 0 + 1) ∧ max (s.1.getD p.2 0) (s.1.getD p.1 0 + 1) ≤ (k : Int) + 1 := by rw [Int.max_def]; split <;> omega
  refine ⟨by simp [hstep, h1], fun v hv => ?_, ?_, ?_⟩
  · rcases List.mem_or_eq_of_mem_set hv with q | q
    · have := h2 v q; omega
    · rw [q]; omega
  · show 0 ≤ max s.2 _
    rw [Int.max_def]; split <;> omega
  · show max s.2 _ ≤ _
    rw [Int.max_def]; split <;> omega
theorem hfold_ok (n : Nat) (E : List (Nat × Nat)) : ∀ k, k ≤ E.length → hok n k (hfold n (E.take k))
  | 0, _ => ⟨by simp [hfold], fun v hv => by simp [hfold] at hv; omega, by simp [hfold]; omega, by simp [hfold]; omega⟩
  | k + 1, h => by
    rw [take_one E k E[k] (List.getElem?_eq_getElem (by omega)), hfold_more]
    exact hok_step (hfold_ok n E k (by omega)) _
theorem ix_int (A n : Nat) (j : Nat) (h : j < n) : ∀ wx, (Instr.indexAt 30 (.slice (some ⟨A, 0, none⟩) n n) (.int .i64 (j : Int))).run Try.prog wx = .ok (.pointer (some ⟨A, j, none⟩)) wx := by
  intro wx
  have u := Try.underlying30
  have z := Try.sizeOf3
  have q1 : (j : Int) < n := by omega
  have q2 : ¬ (j : Int) < 0 := by omega
  simp [Instr.indexAt, run_underlying u, asIntOf, go_sem, z, q1, q2, h]
abbrev objInts (s : List Int) : Obj := .cells (s.map fun v => Value.int .i64 v).toArray 3
/-- How far the loop has come. -/
structure HSt (w : World) (n A : Nat) (da : Option Addr) (dc : Nat) (E : List (Nat × Nat)) (s : List Int) (W : World) : Prop where
  a : W.heap[A]? = some (objInts s)
  e : OwnL W w.heap.size 41 2 da dc (E.map edg)
  b : Below w.heap.size w W
  n : ∀ b ∈ blk da, b < A
  l : w.heap.size ≤ A
theorem HSt.later {w : World} {n A : Nat} {da : Option Addr} {dc : Nat} {E : List (Nat × Nat)} {s : List Int} {W W' : World} (h : HSt w n A da dc E s W) (hb : Below W.heap.size W W') : HSt w n A da dc E s W' :=
  ⟨(hb.block _ (Array.getElem?_eq_some_iff.mp h.a).1).trans h.a, own_keep h.e fun b hb' => hb.block b (blk_lt h.e b hb').2, bthen h.b hb, h.n, h.l⟩
theorem HSt.set {w : World} {n A : Nat} {da : Option Addr} {dc : Nat} {E : List (Nat × Nat)} {s : List Int} {W : World} (h : HSt w n A da dc E s W) (j : Nat) (v : Int) : HSt w n A da dc E (s.set j v) (W.setCell ⟨A, j, none⟩ (.int .i64 v)) := by
  rw [setCell_eq_setRow W A j _ _ _ _ h.a]
  refine ⟨?_, own_keep h.e fun b hb' => setRow_other _ _ _ _ (by have := h.n b hb'; omega), below_setRow h.b h.l _, h.n, h.l⟩
  rw [setRow_heap W A _ _ _ _ h.a]
  simp [List.map_set]
theorem HSt.cell {w : World} {n A : Nat} {da : Option Addr} {dc : Nat} {E : List (Nat × Nat)} {s : List Int} {W : World} (h : HSt w n A da dc E s W) {j : Nat} (hj : j < s.length) : W.cell? ⟨A, j, none⟩ = some (.int .i64 (s.getD j 0)) ∧ W.frozen? ⟨A, j, none⟩ = false := by
  refine ⟨cell_of h.a ?_, frozen_of_row _ _ _ _ _ h.a⟩
  rw [List.getD_eq_getElem?_getD, List.getElem?_eq_getElem hj]
  simp [hj]
set_option maxHeartbeats 2000000 in
theorem height_ok (l : List Ev) (la : Option Addr) (lc : Nat) (w : World) (hl : Rows w 26 la lc (l.map Ev.cells)) (hlen : l.length ≤ 256) (hrt : ∀ x ∈ l, rightP x) :
    Calls Try.prog 14 #[.slice la l.length lc] w fun e w' => e = .returned (.tuple #[.int .i64 (hfold l.length (rel (evf l) l.length).2).2, .int .i64 0]) ∧ Below w.heap.size w w' := by
  have c1 : Calls Try.prog 42 #[.slice la l.length lc, .slice none 0 0] w (LookPost l la lc w) := look_any l la lc [] none 0 w hl (rows_nil1 w) hlen hrt (by simp) (by simp)
  have hEl : (rel (evf l) l.length).2.length ≤ 65536 := by have := rel_edges (evf l) l.length hlen; omega
  have hElH : Hid ((rel (evf l) l.length).2.length ≤ 65536) := hEl
  have hlI2 : (l.length : Int) ≤ 256 := by omega
  obtain ⟨iN, hiN, hzN, hsN, hbN⟩ := info_q infoN_u
  have hb8 : iN.bytes * l.length ≤ 281474976710656 := by rw [hbN]; omega
  clear hl hrt hEl
  go_enter Try.func14, Try.ntmps14
  go_wp2_with (first
    | (go_at_call 42; (with_reducible refine c1.mono ?_); rintro e w1 ⟨ca, cc, da, dc, rfl, _, oe', hb'⟩; (have oe : Hid (OwnL (w1.alloc (.cells #[.slice la l.length lc, .slice ca l.length cc, .slice da (rel (evf l) l.length).2.length dc] 78)) w.heap.size 41 2 da dc ((rel (evf l) l.length).2.map edg)) := own_keep oe' fun b hb' => (boxed w1 _).block b (blk_lt oe' b hb').2); (have hb : Hid (Below w.heap.size w (w1.alloc (.cells #[.slice la l.length lc, .slice ca l.length cc, .slice da (rel (evf l) l.length).2.length dc] 78))) := bthen hb' (boxed _ _)); (have hn : (w1.alloc (.cells #[.slice la l.length lc, .slice ca l.length cc, .slice da (rel (evf l) l.length).2.length dc] 78)).heap[w1.heap.size]? = some (.cells #[.slice la l.length lc, .slice ca l.length cc, .slice da (rel (evf l) l.length).2.length dc] 78) := heap_alloc_new _ _); (have hx := cell_of (k := 2) (v := .slice da (rel (evf l) l.length).2.length dc) hn rfl); (have hnH : Hid _ := hn); clear oe' hb' c1 hn)
    | (refine wpList_store_new rfl 78 _ _ rfl rfl _ _ rfl (by kernel_rfl) rfl (one3 _ _ _ _ _ _ _ _ _) ?_)
    | (refine wpList_mk _ rfl _ _ 30 rfl 3 iN (.int .i64 0) Try.underlying30 hiN hzN rfl hsN l.length rfl rfl hb8 (by omega) ?_; intro W hwh hbW hsW; (have hx2 := cell_of (k := 2) (v := .slice da (rel (evf l) l.length).2.length dc) ((hbW.block _ (by rw [World.size_alloc]; omega)).trans hnH.out) rfl)))
  have hA : w1.heap.size + 1 = (w1.alloc (.cells #[.slice la l.length lc, .slice ca l.length cc, .slice da (rel (evf l) l.length).2.length dc] 78)).heap.size := (World.size_alloc _ _).symm
  have hpr : Hid (∀ p ∈ (rel (evf l) l.length).2, p.1 < p.2 ∧ p.2 < l.length) := rel_pairs (evf l) l.length
  have s0 : Hid (HSt w l.length (w1.heap.size + 1) da dc (rel (evf l) l.length).2 (hfold l.length ((rel (evf l) l.length).2.take 0)).1 W) := by
    rw [hA]
    refine ⟨by rw [hwh]; simp [hfold], own_keep oe.out fun b hb' => hbW.block b (blk_lt oe.out b hb').2, bthen hb.out hbW, fun b hb' => (blk_lt oe.out b hb').2, hb.out.size⟩
  have h00 : (hfold l.length ((rel (evf l) l.length).2.take 0)).2 = min 1 (l.length : Int) := rfl
  generalize w1.heap.size + 1 = A at *
  generalize hEE : (rel (evf l) l.length).2 = E at *
  have hEH : Hid ((rel (evf l) l.length).2 = E) := hEE
  clear hwh hbW hsW hA hx hx2 hnH oe hb hEE
  have hEI : (E.length : Int) ≤ 65536 := by have := hElH.out; omega
  go_loopw [6, 29] (fun h u wr => ∃ k : Nat, k ≤ E.length ∧ u = .int .i64 k ∧ h = .int .i64 (hfold l.length (E.take k)).2 ∧ Hid (HSt w l.length A da dc E (hfold l.length (E.take k)).1 wr)) (fun _ u _ => E.length - (intOf u).toNat)
  case atStart => exact ⟨0, Nat.zero_le _, rfl, by rw [h00], s0⟩
  case round =>
    obtain ⟨k, hk, rfl, rfl, hs⟩ := hrel
    have hok1 := hfold_ok l.length E k hk
    by_cases hlt : k < E.length
    · obtain ⟨p, hp, hpm⟩ := get_lt E k hlt
      obtain ⟨p1, p2⟩ := hpr.out p hpm
      have hkI : (k : Int) < E.length := by omega
      have hmore : Hid (hfold l.length (E.take (k + 1)) = hstep (hfold l.length (E.take k)) p) := by show _ = _; rw [take_one E k p hp, hfold_more]
      have hr : Rows wr 2 da dc (E.map edg) := own_rows hs.out.e fun row hm => by rw [List.mem_map] at hm; obtain ⟨y, _, rfl⟩ := hm; rfl
      obtain ⟨b, o, hix, hbl, hrg⟩ := hr.ix 27 41 Try.underlying27 (by kernel_rfl) (fun wx => Try.sizeOf41 wx) k (row := edg p) (by simp [hp])
      rw [List.length_map] at hix
      have hrH : Hid (wr.rangeAt b o (edg p)) := hrg
      have hsP := hs.out.later (boxed wr (.cells (edg p).toArray 41))
      have hPP := heap_alloc_new wr (.cells (edg p).toArray 41)
      have cI := hsP.cell (j := p.1) (by rw [hok1.1]; omega)
      have cJ := hsP.cell (j := p.2) (by rw [hok1.1]; omega)
      have bI := getD_in hok1.2.1 p.1
      have bJ := getD_in hok1.2.1 p.2
      have bH := hok1.2.2
      have xI := ix_int A l.length p.1 (by omega)
      have xJ := ix_int A l.length p.2 p2
      have huP : Hid (Try.prog.underlying 41 = _) := Try.underlying41
      have hiP : Hid ((Try.prog.info? 41).map (·.size) = some 2) := by show _ = _; kernel_rfl
      clear hr hrg hok1
      go_wp2_with (first
        | (refine wpList_load_mid rfl 41 _ rfl b o rfl (edg p) _ hrH.out huP.out rfl hiP.out ?_)
        | (refine wpList_store_new rfl 41 _ _ rfl rfl _ (edg p).toArray rfl (by kernel_rfl) rfl (by simp [edg, Value.oneCell']) ?_))
      have cP0 := cell_of (k := 0) (v := .int .i64 (p.1 : Int)) hPP rfl
      have cP1 := cell_of (k := 1) (v := .int .i64 (p.2 : Int)) hPP rfl
      have hsPH : Hid (HSt w l.length A da dc E (hfold l.length (E.take k)).1 (wr.alloc (.cells (edg p).toArray 41))) := hsP
      clear hsP hPP
      generalize wr.alloc (.cells (edg p).toArray 41) = W2 at *
      have hmoreH := hmore
      clear hmore
      generalize hfold l.length (E.take k) = s at *
      obtain ⟨ai, hai⟩ : ∃ ai, ai = s.1.getD p.1 0 := ⟨_, rfl⟩
      obtain ⟨aj, haj⟩ : ∃ aj, aj = s.1.getD p.2 0 := ⟨_, rfl⟩
      obtain ⟨hh, hhh⟩ : ∃ hh, hh = s.2 := ⟨_, rfl⟩
      rw [← hai] at cI bI
      rw [← haj] at cJ bJ
      rw [← hhh] at bH ⊢
      obtain ⟨m, hm⟩ : ∃ m, max aj (ai + 1) = m := ⟨_, rfl⟩
      obtain ⟨m2, hm2⟩ : ∃ m2, max hh (m + 1) = m2 := ⟨_, rfl⟩
      have hst : Hid (hstep s p = (s.1.set p.2 m, m2)) := by show _ = _; unfold hstep; rw [← hai, ← haj, ← hhh, hm, hm2]
      have hmb : 0 ≤ m ∧ m ≤ 70000 := by rw [← hm, Int.max_def]; split <;> omega
      have hw1 : wrap64 (ai + 1) = ai + 1 := by simp only [wrap64]; omega
      have hw2 : wrap64 (m + 1) = m + 1 := by simp only [wrap64]; omega
      have cI1 := cI.1
      have cJ1 := cJ.1
      have cJ2 := cJ.2
      clear hai haj hhh cI cJ
      go_quiet (fail)
      go_wp2_with fail
      go_region
      have hs3 : Hid (HSt w l.length A da dc E (s.1.set p.2 m) ((W2.drewN (nq + 1)).setCell ⟨A, p.2, none⟩ (.int .i64 m))) := (hsPH.out.later (below_drewN (Below.refl _ _) (nq + 1))).set p.2 m
      have cM : ((W2.drewN (nq + 1)).setCell ⟨A, p.2, none⟩ (.int .i64 m)).cell? ⟨A, p.2, none⟩ = some (.int .i64 m) := World.cell?_setCell_same' (W2.drewN (nq + 1)) _ _ (by show ((W2.cell? _).isSome) = true; rw [cJ1]; rfl)
      generalize (W2.drewN (nq + 1)).setCell ⟨A, p.2, none⟩ (.int .i64 m) = W3 at *
      go_wp2
      go_roundw
      case rel => exact ⟨k + 1, by omega, by go_num, by rw [hmoreH.out, hst.out], by rw [hmoreH.out, hst.out]; exact hs3⟩
      case measure => simp [intOf]; omega
    · have hk2 : k = E.length := by omega
      subst hk2
      have hfin : Hid (hfold l.length (E.take E.length) = hfold l.length E) := by show _ = _; rw [List.take_length]
      clear hok1
      go_wp2
      go_ret2
      exact ⟨by rw [hEH.out, ← hfin.out]; rfl, hs.out.b⟩
end Go.Proofs.Ytkhhkgfaakgdfaa.pg
/- Edges make up what happens before what; a swap of two that do not depend on each other leaves it; chains. -/
namespace Go.Proofs.Ytkhhkgfaakgdfaa.pg
set_option linter.unusedVariables false
/-- Is there an edge? -/
def edgeB (d B : Nat → Nat → Bool) (i j : Nat) : Bool := decide (i < j) && (d i j && !sB d B j (i + 1) i)
theorem edgeB_iff (d B : Nat → Nat → Bool) (i j : Nat) : edgeB d B i j = true ↔ i < j ∧ d i j = true ∧ sB d B j (i + 1) i = false := by
  unfold edgeB
  simp only [Bool.and_eq_true, decide_eq_true_eq, Bool.not_eq_true']
section
variable {d B : Nat → Nat → Bool} (hB : Tells d B)
include hB
theorem edgeB_is {i j : Nat} : edgeB d B i j = true ↔ (HB d i j ∧ ∀ k, ¬ (HB d i k ∧ HB d k j)) := by
  rw [edgeB_iff]
  constructor
  · rintro ⟨h1, h2⟩
    exact (edge_iff hB h1).mpr h2
  · intro h
    exact ⟨h.1.lt, (edge_iff hB h.1.lt).mp h⟩
theorem edgeB_hb {i j : Nat} (h : edgeB d B i j = true) : HB d i j := ((edgeB_is hB).mp h).1
theorem edge_last_n : ∀ (n i m j : Nat), j - m ≤ n → m < j → d m j = true → (i = m ∨ HB d i m) → ∃ m, edgeB d B m j = true ∧ (i = m ∨ HB d i m)
  | 0, i, m, j, h, h1, _, _ => by omega
  | n + 1, i, m, j, h, h1, h2, h3 => by
    by_cases c : sB d B j (m + 1) m = true
    · obtain ⟨i', q1, q2, q3, q4⟩ := (sB_iff hB j (m + 1) m).mp c
      rcases q4 with q4 | q4
      · omega
      · refine edge_last_n n i i' j (by omega) q2 q3 (.inr ?_)
        rcases h3 with rfl | h3
        · exact q4
        · exact .then h3 q4
    · exact ⟨m, (edgeB_iff d B m j).mpr ⟨h1, h2, by simpa using c⟩, h3⟩
/-- The last step on a way is an edge. -/
theorem edge_last {i j : Nat} (h : HB d i j) : ∃ m, edgeB d B m j = true ∧ (i = m ∨ HB d i m) := by
  obtain ⟨m, h1, h2, h3⟩ := h.last
  exact edge_last_n hB _ i m j (Nat.le_refl _) h1 h2 h3
/-- The first step on a way can be an edge. -/
theorem edge_first_n : ∀ (n i j : Nat), j ≤ n → HB d i j → ∃ m, edgeB d B i m = true ∧ (m = j ∨ HB d m j)
  | 0, i, j, h, q => by have := q.lt; omega
  | n + 1, i, j, h, q => by
    obtain ⟨m, h1, h2⟩ := edge_last hB q
    have hm := edgeB_hb hB h1
    rcases h2 with rfl | h2
    · exact ⟨j, h1, .inl rfl⟩
    · obtain ⟨k, k1, k2⟩ := edge_first_n n i m (by have := hm.lt; omega) h2
      refine ⟨k, k1, .inr ?_⟩
      rcases k2 with rfl | k2
      · exact hm
      · exact .then k2 hm
theorem edge_first {i j : Nat} (h : HB d i j) : ∃ m, edgeB d B i m = true ∧ (m = j ∨ HB d m j) := edge_first_n hB j i j (Nat.le_refl _) h
end
/-- Two neighbours changed about. -/
def swp (i k : Nat) : Nat := if k = i then i + 1 else if k = i + 1 then i else k
theorem swp_swp (i k : Nat) : swp i (swp i k) = k := by unfold swp; split <;> split <;> (try split) <;> omega
theorem swp_lt {i k n : Nat} (h : i + 1 < n) (hk : k < n) : swp i k < n := by unfold swp; split <;> (try split) <;> omega
theorem swp_inj {i a b : Nat} (h : swp i a = swp i b) : a = b := by rw [← swp_swp i a, h, swp_swp]
theorem hb_swp {d d' : Nat → Nat → Bool} {i : Nat} (hd : ∀ a b, d a b = true → d' (swp i a) (swp i b) = true) (h0 : d i (i + 1) = false) {a b : Nat} (h : HB d a b) : HB d' (swp i a) (swp i b) := by
  induction h with
  | @one a b hab q =>
    refine .one ?_ (hd _ _ q)
    unfold swp
    by_cases c : a = i ∧ b = i + 1
    · obtain ⟨rfl, rfl⟩ := c
      rw [h0] at q; cases q
    · (repeat' split) <;> omega
  | «then» _ _ h1 h2 => exact .then h1 h2
theorem cnt_swp2 (p : Nat → Bool) (i : Nat) : cnt (fun k => p (swp i k)) (i + 2) = cnt p (i + 2) := by
  have e : cnt (fun k => p (swp i k)) i = cnt p i := cnt_congr fun k hk => by
    have : swp i k = k := by unfold swp; split <;> (try split) <;> omega
    simp only [this]
  have e1 : swp i i = i + 1 := by simp [swp]
  have e2 : swp i (i + 1) = i := by simp [swp]
  show (cnt (fun k => p (swp i k)) i + (if p (swp i i) then 1 else 0)) + (if p (swp i (i + 1)) then 1 else 0) = (cnt p i + (if p i then 1 else 0)) + (if p (i + 1) then 1 else 0)
  rw [e, e1, e2]
  omega
theorem cnt_swp (p : Nat → Bool) (i : Nat) : ∀ n, i + 2 ≤ n → cnt (fun k => p (swp i k)) n = cnt p n
  | 0, h => by omega
  | n + 1, h => by
    by_cases c : n + 1 = i + 2
    · rw [c]; exact cnt_swp2 p i
    · have ih := cnt_swp p i n (by omega)
      have e : swp i n = n := by unfold swp; split <;> (try split) <;> omega
      show cnt (fun k => p (swp i k)) n + (if p (swp i n) then 1 else 0) = cnt p n + (if p n then 1 else 0)
      rw [ih, e]
/-- The clocks of a trace with two neighbours changed about that do not depend on each other. -/
theorem ck_swp {d d' B B' : Nat → Nat → Bool} (hB : Tells d B) (hB' : Tells d' B') {g g' : Nat → Nat} {i n : Nat} (hn : i + 2 ≤ n) (hd : ∀ a b, d' a b = d (swp i a) (swp i b)) (hg : ∀ a, g' a = g (swp i a)) (h0 : d i (i + 1) = false) (h1 : d (i + 1) i = false) {j : Nat} (hj : j < n) (a : Nat) :
    ck B' g' (swp i j) a = ck B g j a := by
  rw [ckn_at hB' (swp_lt (by omega) hj), ckn_at hB hj, ← cnt_swp _ i n hn]
  refine cnt_congr fun k _ => ?_
  have key : HB d' (swp i k) (swp i j) ↔ HB d k j := by
    constructor
    · intro h
      have := hb_swp (d := d') (d' := d) (i := i) (fun a b q => by rw [hd] at q; exact q) (by rw [hd]; unfold swp; simp; exact h1) h
      rwa [swp_swp, swp_swp] at this
    · intro h
      exact hb_swp (fun a b q => by rw [hd, swp_swp, swp_swp]; exact q) h0 h
  simp only [hg, swp_swp, Bool.and_eq_true, Bool.or_eq_true, beq_iff_eq, hB' _ _, hB k j, key]
  constructor
  · rintro ⟨q1, q2 | q2⟩
    · exact ⟨q1, .inl (swp_inj q2)⟩
    · exact ⟨q1, .inr q2⟩
  · rintro ⟨q1, q2 | q2⟩
    · exact ⟨q1, .inl (by rw [q2])⟩
    · exact ⟨q1, .inr q2⟩
/-- How many stand ahead of each: along every edge one more, and no more than by some edge. -/
structure High (n : Nat) (e : Nat → Nat → Bool) (h : Nat → Int) : Prop where
  pos : ∀ j, j < n → 0 ≤ h j
  up : ∀ i j, i < j → j < n → e i j = true → h i + 1 ≤ h j
  some : ∀ j, j < n → h j = 0 ∨ ∃ i, i < j ∧ e i j = true ∧ h j = h i + 1
theorem High.hb {d B : Nat → Nat → Bool} (hB : Tells d B) {n : Nat} {h : Nat → Int} (hh : High n (edgeB d B) h) : ∀ (m i j : Nat), j ≤ m → j < n → HB d i j → h i + 1 ≤ h j
  | 0, i, j, h1, _, q => by have := q.lt; omega
  | m + 1, i, j, h1, h2, q => by
    obtain ⟨k, k1, k2⟩ := edge_last hB q
    have hk := ((edgeB_iff d B k j).mp k1).1
    have u := hh.up k j hk h2 k1
    rcases k2 with rfl | k2
    · exact u
    · have := hh.hb hB m i k (by omega) (by omega) k2
      omega
/-- As many as a goroutine has: no more than are in a chain. -/
theorem High.own {d B : Nat → Nat → Bool} (hB : Tells d B) {g : Nat → Nat} {n : Nat} (ho : Ord d g n) {h : Nat → Int} (hh : High n (edgeB d B) h) (a : Nat) (H : Int) (h0 : 0 ≤ H) (hH : ∀ j, j < n → h j + 1 ≤ H) :
    ∀ m, m ≤ n → (cnt (fun k => g k == a) m : Int) ≤ H ∧ (cnt (fun k => g k == a) m = 0 ∨ ∃ k, k < m ∧ g k = a ∧ (cnt (fun k => g k == a) m : Int) ≤ h k + 1)
  | 0, _ => ⟨by show ((0 : Nat) : Int) ≤ H; omega, .inl rfl⟩
  | m + 1, hm => by
    obtain ⟨i1, i2⟩ := hh.own hB ho a H h0 hH m (by omega)
    have e : cnt (fun k => g k == a) (m + 1) = cnt (fun k => g k == a) m + (if (g m == a) = true then 1 else 0) := rfl
    by_cases c : g m = a
    · have c2 : (g m == a) = true := by simpa using c
      rw [if_pos c2] at e
      rw [e]
      have key : ((cnt (fun k => g k == a) m + 1 : Nat) : Int) ≤ h m + 1 := by
        rcases i2 with q | ⟨k, k1, k2, k3⟩
        · have := hh.pos m (by omega); rw [q]; omega
        · have := hh.hb hB m k m (Nat.le_refl _) (by omega) (.one k1 (ho k m k1 (by omega) (by rw [k2, c])))
          omega
      refine ⟨by have := hH m (by omega); omega, .inr ⟨m, by omega, c, key⟩⟩
    · have c2 : ¬ (g m == a) = true := by simpa using c
      rw [if_neg c2] at e
      rw [e, Nat.add_zero]
      refine ⟨i1, i2.imp_right ?_⟩
      rintro ⟨k, k1, k2, k3⟩
      exact ⟨k, by omega, k2, k3⟩
end Go.Proofs.Ytkhhkgfaakgdfaa.pg
