/- A trace laid in another order that keeps what happens before what: what happens before what, and its canonical order, are as they were. -/
import Derived.Test.YtkadlopcomjonaaM1
import Derived.Test.YtkadlopcomjonaaM32
import Derived.Test.YtkadlopcomjonaaM22
import Derived.Test.YtkadlopcomjonaaM29
namespace Go.Proofs.Ytkadlopcomjonaa.pg
set_option linter.unusedVariables false
/-- What stands at a place of an order. -/
def nth (L : List Nat) (i : Nat) : Nat := L.getD i 0
theorem nth_at {L : List Nat} {i : Nat} (h : i < L.length) : L[i]? = some (nth L i) := by
  unfold nth
  rw [List.getD_eq_getElem?_getD, List.getElem?_eq_getElem h]; rfl
theorem nth_of {L : List Nat} {i x : Nat} (h : L[i]? = some x) : nth L i = x := by
  unfold nth
  rw [List.getD_eq_getElem?_getD, h]; rfl
/-- A whole order that keeps what happens before what. -/
structure Ways (B : Nat → Nat → Bool) (n : Nat) (L : List Nat) : Prop where
  lin : LinP B n L
  len : L.length = n
section
variable {B : Nat → Nat → Bool} {n : Nat} {L : List Nat} (hL : Ways B n L)
include hL
theorem Ways.lt {i : Nat} (h : i < n) : nth L i < n := hL.lin.lt _ (List.mem_of_getElem? (nth_at (by rw [hL.len]; exact h)))
theorem Ways.inj {i j : Nat} (hi : i < n) (hj : j < n) (e : nth L i = nth L j) : i = j := by
  have h1 := nth_at (L := L) (i := i) (by rw [hL.len]; exact hi)
  have h2 := nth_at (L := L) (i := j) (by rw [hL.len]; exact hj)
  rw [e, ← h2] at h1
  exact (List.getElem?_inj (by rw [hL.len]; exact hi) hL.lin.nodup).mp h1
theorem Ways.all {x : Nat} (h : x < n) : ∃ i, i < n ∧ nth L i = x := by
  have hm : x ∈ L := by
    apply Classical.byContradiction
    intro q
    have h1 := cnt_memS L hL.lin.nodup hL.lin.lt
    rw [hL.len] at h1
    have h2 := cnt_lt (p := memS L) (q := fun _ => true) (n := n) (m := x) (fun _ _ _ => rfl) h rfl (by unfold memS; exact decide_eq_false q)
    have := cnt_le (fun _ => true) n
    omega
  obtain ⟨i, hi, e⟩ := List.getElem_of_mem hm
  exact ⟨i, by rw [← hL.len]; exact hi, nth_of (by rw [← e]; exact List.getElem?_eq_getElem hi)⟩
theorem Ways.take {k i : Nat} (hk : k ≤ n) (hi : i < n) : nth L i ∈ L.take k ↔ i < k := by
  constructor
  · intro h
    obtain ⟨j, hj⟩ := List.getElem?_of_mem h
    have hjk : j < k := by
      have := (List.getElem?_eq_some_iff.mp hj).1
      rw [List.length_take] at this
      omega
    rw [List.getElem?_take_of_lt hjk] at hj
    have := hL.inj (i := j) (j := i) (by omega) hi (nth_of hj)
    omega
  · intro h
    exact List.mem_iff_getElem?.mpr ⟨i, by rw [List.getElem?_take_of_lt h]; exact nth_at (by rw [hL.len]; exact hi)⟩
/-- What stands ahead of what in the trace stands so in the order. -/
theorem Ways.up {d : Nat → Nat → Bool} (hB : Tells d B) {i j : Nat} (hi : i < n) (hj : j < n) (h : HB d (nth L i) (nth L j)) : i < j := by
  have h1 := (freeB_iff.mp (hL.lin j _ (nth_at (by rw [hL.len]; exact hj))).2).2 (nth L i) h.lt ((hB _ _).mpr h)
  exact (hL.take (by omega) hi).mp (of_decide_eq_true h1)
variable {d d' : Nat → Nat → Bool} (hB : Tells d B) (hs : ∀ i j, d i j = d j i) (hd : ∀ i j, i < n → j < n → d' i j = d (nth L i) (nth L j))
include hB hs hd
theorem Ways.hb {i j : Nat} (h : HB d' i j) : j < n → HB d (nth L i) (nth L j) := by
  induction h with
  | @one a b hab q =>
    intro hb
    rw [hd a b (by omega) hb] at q
    rcases Nat.lt_trichotomy (nth L a) (nth L b) with c | c | c
    · exact .one c q
    · have := hL.inj (by omega) hb c; omega
    · have := hL.up hB hb (by omega) (.one c (by rw [hs]; exact q)); omega
  | @«then» a b c h1 h2 i1 i2 =>
    intro hc
    have := h2.lt
    exact .then (i1 (by omega)) (i2 hc)
theorem Ways.bh {x y : Nat} (h : HB d x y) : y < n → ∀ i j, i < n → j < n → nth L i = x → nth L j = y → HB d' i j := by
  have _ := hs
  induction h with
  | @one a b hab q =>
    intro hb i j hi hj e1 e2
    have := hL.up hB hi hj (by rw [e1, e2]; exact .one hab q)
    exact .one this (by rw [hd i j hi hj, e1, e2]; exact q)
  | @«then» a b c h1 h2 i1 i2 =>
    intro hc i j hi hj e1 e2
    have hbc := h2.lt
    obtain ⟨k, hk, e3⟩ := hL.all (show b < n by omega)
    exact .then (i1 (by omega) i k hi hk e1 e3) (i2 hc k j hk hj e3 e2)
theorem Ways.same {B' : Nat → Nat → Bool} (hB' : Tells d' B') {i j : Nat} (hi : i < n) (hj : j < n) : B' i j = B (nth L i) (nth L j) := by
  rw [Bool.eq_iff_iff, hB' i j, hB]
  exact ⟨fun h => hL.hb hB hs hd h hj, fun h => hL.bh hB hs hd h (hL.lt hj) i j hi hj rfl rfl⟩
/-- What may come next in the new trace is what might in the old one. -/
theorem Ways.free {B' : Nat → Nat → Bool} (hB' : Tells d' B') {S S' : Nat → Bool} (hS : ∀ i, i < n → S' i = S (nth L i)) {i : Nat} (hi : i < n) : freeB B' S' i = freeB B S (nth L i) := by
  rw [Bool.eq_iff_iff, freeB_iff, freeB_iff, hS i hi]
  constructor
  · rintro ⟨h1, h2⟩
    refine ⟨h1, fun j hj hb => ?_⟩
    have := hL.lt hi
    obtain ⟨k, hk, e⟩ := hL.all (show j < n by omega)
    subst e
    have hb' : B' k i = true := by rw [hL.same hB hs hd hB' hk hi]; exact hb
    have h3 := h2 k ((hB' _ _).mp hb').lt hb'
    rw [hS k hk] at h3
    exact h3
  · rintro ⟨h1, h2⟩
    refine ⟨h1, fun j hj hb => ?_⟩
    rw [hL.same hB hs hd hB' (by omega) hi] at hb
    rw [hS j (by omega)]
    exact h2 _ ((hB _ _).mp hb).lt hb
variable {g g' : Nat → Nat} (hg : ∀ i, i < n → g' i = g (nth L i)) (ho : Ord d g n)
include hg ho
/-- The canonical order of the new trace, told by the old one's places, is the canonical order of the old one. -/
theorem Ways.canon {B' : Nat → Nat → Bool} (hB' : Tells d' B') {M : List Nat} (hM : OrdL B' g' n M) : OrdL B g n (M.map (nth L)) := by
  intro k x hx
  rw [List.getElem?_map] at hx
  cases hy : M[k]? with
  | none => rw [hy] at hx; simp at hx
  | some y =>
    rw [hy] at hx
    simp only [Option.map_some, Option.some.injEq] at hx
    subst hx
    have p := hM k y hy
    have hlt : ∀ z ∈ M, z < n := hM.lin.lt
    have hS : ∀ i, i < n → memS (M.take k) i = memS ((M.map (nth L)).take k) (nth L i) := fun i hi => by
      rw [← List.map_take]
      unfold memS
      rw [Bool.eq_iff_iff, decide_eq_true_iff, decide_eq_true_iff, List.mem_map]
      constructor
      · intro h; exact ⟨i, h, rfl⟩
      · rintro ⟨j, h1, h2⟩
        rw [← hL.inj (hlt j (List.mem_of_mem_take h1)) hi h2]
        exact h1
    have hf : ∀ i, i < n → freeB B' (memS (M.take k)) i = freeB B (memS ((M.map (nth L)).take k)) (nth L i) := fun i hi => hL.free hB hs hd hB' hS hi
    refine ⟨hL.lt p.lt, by rw [← hf y p.lt]; exact p.fr, fun z hz hz2 => ?_, fun z hz hz2 e => ?_⟩
    · obtain ⟨i, hi, rfl⟩ := hL.all hz
      rw [← hg y p.lt, ← hg i hi]
      exact p.lo i hi (by rw [hf i hi]; exact hz2)
    · obtain ⟨i, hi, rfl⟩ := hL.all hz
      have h1 := p.fi i hi (by rw [hf i hi]; exact hz2) (by rw [hg y p.lt, hg i hi]; exact e)
      rcases Nat.lt_or_ge (nth L i) (nth L y) with c | c
      · have := hL.up hB hi p.lt (.one c (ho _ _ c (hL.lt p.lt) e))
        omega
      · exact c
end
theorem ord_ways {B : Nat → Nat → Bool} {g : Nat → Nat} {n : Nat} {L : List Nat} (h : OrdL B g n L) (hl : L.length = n) : Ways B n L := ⟨h.lin, hl⟩
/-- Laid in its canonical order a trace has the order 0, 1, 2 .. -/
theorem canon_once {d d' B B' : Nat → Nat → Bool} (hB : Tells d B) (hB' : Tells d' B') {g g' : Nat → Nat} {n : Nat} {L M : List Nat} (hL : OrdL B g n L) (hl : L.length = n) (hs : ∀ i j, d i j = d j i) (hd : ∀ i j, i < n → j < n → d' i j = d (nth L i) (nth L j)) (hg : ∀ i, i < n → g' i = g (nth L i)) (ho : Ord d g n) (hM : OrdL B' g' n M) (hm : M.length = n) : ∀ i, i < n → nth M i = i := by
  intro i hi
  have hw := ord_ways hL hl
  have h1 := (hw.canon hB hs hd hg ho hB' hM).same hL (by rw [List.length_map, hm, hl])
  have h2 := congrArg (·[i]?) h1
  simp only [List.getElem?_map, nth_at (L := M) (i := i) (by omega), nth_at (L := L) (i := i) (by omega), Option.map_some, Option.some.injEq] at h2
  exact hw.inj ((ord_ways hM hm).lt hi) hi h2
end Go.Proofs.Ytkadlopcomjonaa.pg
/- A trace laid in another order: what it is then. -/
namespace Go.Proofs.Ytkadlopcomjonaa.pg
set_option linter.unusedVariables false
theorem dpf_comm (l : List Ev) (i j : Nat) : dpf l i j = dpf l j i := clash_comm _ _
/-- The events in an order. -/
def laidE (l : List Ev) (L : List Nat) : List Ev := L.map (evf l)
theorem arr_laid (l : List Ev) (L : List Nat) : arrE l (L.map fun x : Nat => (x : Int)) = laidE l L := by
  unfold arrE laidE
  rw [List.map_map]
  rfl
theorem laid_len (l : List Ev) (L : List Nat) : (laidE l L).length = L.length := by simp [laidE]
theorem laid_evf {l : List Ev} {L : List Nat} {i : Nat} (h : i < L.length) : evf (laidE l L) i = evf l (nth L i) := by
  have h1 := evf_at (l := laidE l L) (i := i) (by rw [laid_len]; exact h)
  unfold laidE at h1 ⊢
  rw [List.getElem?_map, nth_at h] at h1
  simpa using h1.symm
theorem laid_dpf {l : List Ev} {L : List Nat} {i j : Nat} (hi : i < L.length) (hj : j < L.length) : dpf (laidE l L) i j = dpf l (nth L i) (nth L j) := by
  unfold dpf
  rw [laid_evf hi, laid_evf hj]
theorem laid_gof {l : List Ev} {L : List Nat} {i : Nat} (hi : i < L.length) : gof (laidE l L) i = gof l (nth L i) := by
  unfold gof
  rw [laid_evf hi]
theorem laid_all {l : List Ev} {L : List Nat} {P : Ev → Prop} (h : ∀ x ∈ l, P x) (hL : ∀ x ∈ L, x < l.length) : ∀ x ∈ laidE l L, P x := by
  intro x hx
  obtain ⟨i, hi, rfl⟩ := List.mem_map.mp hx
  exact h _ (List.mem_of_getElem? (evf_at (hL i hi)))
theorem laid_id {l : List Ev} {M : List Nat} (hm : M.length = l.length) (h : ∀ i, i < l.length → nth M i = i) : laidE l M = l := by
  apply List.ext_getElem?
  intro i
  by_cases c : i < l.length
  · unfold laidE
    rw [List.getElem?_map, nth_at (by omega), h i c, evf_at c]
    rfl
  · rw [List.getElem?_eq_none (by rw [laid_len]; omega), List.getElem?_eq_none (by omega)]
section
variable {l : List Ev} (hrt : ∀ x ∈ l, rightP x) {B : Nat → Nat → Bool} (hB : Tells (dpf l) B)
include hrt hB
/-- Laid in any order that keeps what happens before what, a trace has the same canonical events. -/
theorem canon_laid {S L M : List Nat} (hS : Ways B l.length S) (hL : OrdL B (gof l) l.length L) (hl : L.length = l.length) {B' : Nat → Nat → Bool} (hB' : Tells (dpf (laidE l S)) B') (hM : OrdL B' (gof (laidE l S)) l.length M) (hm : M.length = l.length) : laidE (laidE l S) M = laidE l L := by
  have h1 := (hS.canon hB (fun i j => dpf_comm l i j) (fun i j hi hj => laid_dpf (by rw [hS.len]; exact hi) (by rw [hS.len]; exact hj)) (fun i hi => laid_gof (by rw [hS.len]; exact hi)) (ord_ok hrt) hB' hM).same hL (by rw [List.length_map, hm, hl])
  rw [← h1]
  unfold laidE
  rw [List.map_map]
  refine List.map_congr_left fun x hx => ?_
  exact laid_evf (by rw [hS.len]; exact hM.lin.lt x hx)
theorem once_laid {L M : List Nat} (hL : OrdL B (gof l) l.length L) (hl : L.length = l.length) {B' : Nat → Nat → Bool} (hB' : Tells (dpf (laidE l L)) B') (hM : OrdL B' (gof (laidE l L)) l.length M) (hm : M.length = l.length) : ∀ i, i < l.length → nth M i = i :=
  canon_once hB hB' hL hl (fun i j => dpf_comm l i j) (fun i j hi hj => laid_dpf (by rw [hl]; exact hi) (by rw [hl]; exact hj)) (fun i hi => laid_gof (by rw [hl]; exact hi)) (ord_ok hrt) hM hm
end
end Go.Proofs.Ytkadlopcomjonaa.pg
/- The document's own look at a list of places. -/
namespace Go.Proofs.Ytkadlopcomjonaa.pg
open Go.ChangeShapes Go.WideShapes Go.ChangeAt Go.RowKit Go.Shelf
set_option linter.unusedVariables false
set_option linter.unusedSimpArgs false
set_option maxRecDepth 100000
attribute [local go_sem ↓] Go.wp_at_zero Go.wp_at_succ
def plBad (n : Nat) (ps : List Int) (al : Bool) (k : Nat) : Prop := ∃ x, ps[k]? = some x ∧ (¬ (0 ≤ x ∧ x < (n : Int)) ∨ (al = true ∧ fOf (ps.take k) x.toNat = true))
def plR (n : Nat) (ps : List Int) (al : Bool) (c : Int) : Prop :=
  (256 < ps.length ∧ c = 2) ∨ (ps.length ≤ 256 ∧ ((∃ k, plBad n ps al k) ∨ (al = true ∧ ps.length ≠ n)) ∧ c = 1) ∨ (ps.length ≤ 256 ∧ (∀ k, ¬ plBad n ps al k) ∧ (al = true → ps.length = n) ∧ c = 0)
/-- A block of bools. -/
structure BoB (w wr : World) (A n : Nat) (f : Nat → Bool) : Prop where
  a : wr.heap[A]? = some (.cells (boolRow n f) 4)
  b : Below w.heap.size w wr
  l : w.heap.size ≤ A
theorem BoB.cell {w wr : World} {A n : Nat} {f : Nat → Bool} (h : BoB w wr A n f) {j : Nat} (hj : j < n) : wr.cell? ⟨A, j, none⟩ = some (.bool (f j)) ∧ wr.frozen? ⟨A, j, none⟩ = false :=
  ⟨cell_of h.a (boolRow_at hj), frozen_of_row _ _ _ _ _ h.a⟩
theorem BoB.put {w wr : World} {A n : Nat} {f g : Nat → Bool} (h : BoB w wr A n f) (j : Nat) (hg : ∀ b, (if b = j then true else f b) = g b) : BoB w (wr.setCell ⟨A, j, none⟩ (.bool true)) A n g := by
  rw [setCell_eq_setRow wr A j _ _ _ _ h.a]
  refine ⟨?_, below_setRow h.b h.l _, h.l⟩
  rw [setRow_heap wr A _ _ _ _ h.a, boolRow_set, show (fun b => if b = j then true else f b) = g from funext hg]
theorem infoBo : (Try.prog.info? 4).map (fun i => (i.zero, i.size, i.bytes)) = some (some (.bool false), 1, 1) := by kernel_rfl
theorem plR_bad {n : Nat} {ps : List Int} {al : Bool} {c : Int} (h : plR n ps al c) (h2 : ps.length ≤ 256) {k : Nat} (hb : plBad n ps al k) : c = 1 := by
  rcases h with ⟨h, _⟩ | ⟨_, _, h⟩ | ⟨_, h, _⟩
  · omega
  · exact h
  · exact absurd hb (h k)
end Go.Proofs.Ytkadlopcomjonaa.pg
