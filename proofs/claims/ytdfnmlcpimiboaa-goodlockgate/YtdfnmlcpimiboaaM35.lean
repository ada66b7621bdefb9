/- Two neighbours of different goroutines changed about: the same takings, plain. -/
import Derived.Test.YtdfnmlcpimiboaaM34
import Derived.Test.YtdfnmlcpimiboaaM18
namespace Go.Proofs.Ytdfnmlcpimiboaa.pg
open Go.RowKit
set_option linter.unusedVariables false
/-- What an event's goroutine holds ahead of it. -/
def hvL (l : List Ev) (k : Nat) : Nat → Bool := hldF l (evA l k).go k
def tkOf (x : Ev) (H : Nat → Bool) : Tk := ⟨x.go, H 0, H 1, H 2, H 3⟩
/-- The takings of an event, by their places. -/
def tkAt (x : Ev) (H : Nat → Bool) (p : Nat) (t : Tk) : Prop := x.op = 55 ∧ 0 ≤ lkN x ∧ t = tkOf x H ∧ ∃ f : Nat, f < 4 ∧ H f = true ∧ (f : Int) ≠ lkN x ∧ p = f * 4 + (lkN x).toNat
theorem addT_mem {x t : Tk} {L : List Tk} : t ∈ addT x L ↔ t ∈ L ∨ t = x := by
  unfold addT
  split
  · rename_i h
    exact ⟨.inl, fun q => q.elim id fun q => q ▸ h⟩
  · rw [List.mem_append, List.mem_singleton]
theorem tkF_iff (hf : Nat → Bool) (E : List Ed) (k : Nat) (t : Tk) : ∀ j, t ∈ tkF hf (E.take j) k ↔ ∃ e ∈ E.take j, plE e = k ∧ tkE hf e = t
  | 0 => by simp [tkF]
  | j + 1 => by
    cases he : E[j]? with
    | none =>
      have hj : E.length ≤ j := List.getElem?_eq_none_iff.mp he
      have := tkF_iff hf E k t j
      rw [List.take_of_length_le hj] at this
      rw [List.take_of_length_le (by omega)]
      exact this
    | some e =>
      rw [tkF_step he, take_one E j e he]
      unfold stepT
      have ih := tkF_iff hf E k t j
      constructor
      · intro h
        by_cases c : k = plE e
        · rw [if_pos c, addT_mem] at h
          rcases h with h | h
          · obtain ⟨d, h1, h2⟩ := ih.mp h
            exact ⟨d, List.mem_append.mpr (.inl h1), h2⟩
          · exact ⟨e, by simp, c.symm, h.symm⟩
        · rw [if_neg c] at h
          obtain ⟨d, h1, h2⟩ := ih.mp h
          exact ⟨d, List.mem_append.mpr (.inl h1), h2⟩
      · rintro ⟨d, h1, h2, h3⟩
        rw [List.mem_append, List.mem_singleton] at h1
        rcases h1 with h1 | rfl
        · have := ih.mpr ⟨d, h1, h2, h3⟩
          by_cases c : k = plE e
          · rw [if_pos c, addT_mem]; exact .inl this
          · rw [if_neg c]; exact this
        · rw [if_pos h2.symm, addT_mem]; exact .inr h3.symm
theorem edgeAt_mem {l : List Ev} {k : Nat} {e : Ed} : e ∈ edgeAt l k ↔ (evA l k).op = 55 ∧ 0 ≤ lkN (evA l k) ∧ ∃ f : Nat, f < 4 ∧ hvL l k f = true ∧ (f : Int) ≠ lkN (evA l k) ∧ e = ⟨(f : Int), lkN (evA l k), (evA l k).go, (k : Int)⟩ := by
  unfold edgeAt
  constructor
  · intro h
    split at h
    · rename_i c
      obtain ⟨f, hf, rfl⟩ := List.mem_map.mp h
      obtain ⟨h1, h2⟩ := List.mem_filter.mp hf
      unfold setL at h1
      obtain ⟨h3, h4⟩ := List.mem_filter.mp h1
      exact ⟨c.1, c.2, f, List.mem_range.mp h3, h4, bne_iff_ne.mp h2, rfl⟩
    · simp at h
  · rintro ⟨h1, h2, f, h3, h4, h5, rfl⟩
    rw [if_pos ⟨h1, h2⟩]
    refine List.mem_map.mpr ⟨f, List.mem_filter.mpr ⟨?_, bne_iff_ne.mpr h5⟩, rfl⟩
    unfold setL
    exact List.mem_filter.mpr ⟨List.mem_range.mpr h3, h4⟩
theorem tkE_at {l : List Ev} {k : Nat} (hk : k < l.length) (fr tw : Int) : tkE (heldF l l.length) ⟨fr, tw, (evA l k).go, (k : Int)⟩ = tkOf (evA l k) (hvL l k) := by
  obtain ⟨x, hx, _⟩ := get_lt l k hk
  unfold tkE tkOf hvL
  rw [evA_at hx]
  have h0 := held_at hx hk (k := 0) (by omega)
  have h1 := held_at hx hk (k := 1) (by omega)
  have h2 := held_at hx hk (k := 2) (by omega)
  have h3 := held_at hx hk (k := 3) (by omega)
  rw [Nat.add_zero] at h0
  simp only [Int.toNat_natCast, h0, h1, h2, h3]
theorem tks_iff {l : List Ev} {p : Nat} {t : Tk} : t ∈ tksL l p ↔ ∃ k, k < l.length ∧ tkAt (evA l k) (hvL l k) p t := by
  have h := tkF_iff (heldF l l.length) (edgesL l l.length) p t (edgesL l l.length).length
  rw [List.take_length] at h
  unfold tksL
  rw [h]
  constructor
  · rintro ⟨e, he, h1, h2⟩
    unfold edgesL at he
    obtain ⟨k, hk, he⟩ := List.mem_flatMap.mp he
    rw [List.mem_range] at hk
    obtain ⟨a1, a2, f, a3, a4, a5, rfl⟩ := edgeAt_mem.mp he
    rw [tkE_at hk] at h2
    refine ⟨k, hk, a1, a2, h2.symm, f, a3, a4, a5, ?_⟩
    rw [← h1]
    unfold plE
    simp
  · rintro ⟨k, hk, a1, a2, a3, f, a4, a5, a6, a7⟩
    refine ⟨⟨(f : Int), lkN (evA l k), (evA l k).go, (k : Int)⟩, ?_, ?_, ?_⟩
    · unfold edgesL
      exact List.mem_flatMap.mpr ⟨k, List.mem_range.mpr hk, edgeAt_mem.mpr ⟨a1, a2, f, a4, a5, a6, rfl⟩⟩
    · rw [a7]; unfold plE; simp
    · rw [tkE_at hk, a3]
theorem choB_mem (Y : Tk → Tk → Bool) {F G : Nat → List Tk} (h : ∀ k t, t ∈ F k ↔ t ∈ G k) (r : List Nat) : ∀ (m : Nat) (ch : List Tk), choB Y F r m ch = choB Y G r m ch
  | 0, _ => rfl
  | m + 1, ch => by
    rw [choB_step, choB_step, Bool.eq_iff_iff, List.any_eq_true, List.any_eq_true]
    have e : ∀ x, stpB Y F r m ch x = stpB Y G r m ch x := fun x => by
      unfold stpB
      rw [choB_mem Y h r m (ch ++ [x])]
    constructor
    · rintro ⟨x, h1, h2⟩
      exact ⟨x, (h _ _).mp h1, by rw [← e]; exact h2⟩
    · rintro ⟨x, h1, h2⟩
      exact ⟨x, (h _ _).mpr h1, by rw [e]; exact h2⟩
theorem rngR_mem {l u : List Ev} (h : ∀ p t, t ∈ tksL u p ↔ t ∈ tksL l p) (c : Int) : rngR u c = rngR l c := by
  unfold rngR
  split
  · exact ringsL_congr (fun b _ => choB_mem unB h b b.length []) 4 (Nat.le_refl _)
  · rfl
theorem grdR_mem {l u : List Ev} (h : ∀ p t, t ∈ tksL u p ↔ t ∈ tksL l p) (zs : List Int) (c : Int) : grdR u zs c = grdR l zs c := by
  have hR : ringsL (okL u) 4 = ringsL (okL l) 4 := ringsL_congr (fun b _ => choB_mem unB h b b.length []) 4 (Nat.le_refl _)
  unfold grdR
  rw [hR, choB_mem apB h]
/-- Two neighbours changed about. -/
def swpL (l : List Ev) (i : Nat) : List Ev := (l.set i (evA l (i + 1))).set (i + 1) (evA l i)
theorem swpL_len (l : List Ev) (i : Nat) : (swpL l i).length = l.length := by unfold swpL; simp
theorem swpL_mem {l : List Ev} {i : Nat} (h : i + 1 < l.length) {x : Ev} (hx : x ∈ swpL l i) : x ∈ l := by
  have m : ∀ k, k < l.length → evA l k ∈ l := fun k hk => by
    obtain ⟨y, hy, hm⟩ := get_lt l k hk
    rw [evA_at hy]; exact hm
  unfold swpL at hx
  rcases List.mem_or_eq_of_mem_set hx with q | q
  · rcases List.mem_or_eq_of_mem_set q with q | q
    · exact q
    · rw [q]; exact m _ h
  · rw [q]; exact m _ (by omega)
section
variable {l : List Ev} {i : Nat}
theorem evA_swp (h : i + 1 < l.length) (k : Nat) : evA (swpL l i) k = if k = i + 1 then evA l i else if k = i then evA l (i + 1) else evA l k := by
  unfold swpL
  show ((l.set i _).set (i + 1) _).getD k ev0 = _
  rw [List.getD_eq_getElem?_getD, List.getElem?_set]
  by_cases c : i + 1 = k
  · rw [if_pos c, if_pos (by rw [List.length_set]; exact h), if_pos c.symm]; rfl
  · rw [if_neg c, if_neg (fun q => c q.symm), List.getElem?_set]
    by_cases d : i = k
    · rw [if_pos d, if_pos (by omega), if_pos d.symm]; rfl
    · rw [if_neg d, if_neg (fun q => d q.symm)]
      show _ = l.getD k ev0
      rw [List.getD_eq_getElem?_getD]
theorem hldF_same {u : List Ev} {g : Int} : ∀ m, (∀ k, k < m → evA u k = evA l k) → hldF u g m = hldF l g m
  | 0, _ => rfl
  | m + 1, h => by
    unfold hldF
    rw [h m (by omega), hldF_same m fun k hk => h k (by omega)]
theorem hldF_swp (h : i + 1 < l.length) (hne : (evA l i).go ≠ (evA l (i + 1)).go) (g : Int) : ∀ d, hldF (swpL l i) g (i + 2 + d) = hldF l g (i + 2 + d)
  | 0 => by
    have h0 : hldF (swpL l i) g i = hldF l g i := hldF_same i fun k hk => by rw [evA_swp h, if_neg (by omega), if_neg (by omega)]
    have e1 : evA (swpL l i) i = evA l (i + 1) := by rw [evA_swp h, if_neg (by omega), if_pos rfl]
    have e2 : evA (swpL l i) (i + 1) = evA l i := by rw [evA_swp h, if_pos rfl]
    show hldF (swpL l i) g (i + 1 + 1) = hldF l g (i + 1 + 1)
    unfold hldF
    rw [e2]
    unfold hldF
    rw [e1, h0]
    by_cases c1 : (evA l i).go = g
    · have c2 : ¬ (evA l (i + 1)).go = g := fun q => hne (c1.trans q.symm)
      simp [c1, c2]
    · by_cases c2 : (evA l (i + 1)).go = g <;> simp [c1, c2]
  | d + 1 => by
    have ih := hldF_swp h hne g d
    show hldF (swpL l i) g (i + 2 + d + 1) = hldF l g (i + 2 + d + 1)
    have e : evA (swpL l i) (i + 2 + d) = evA l (i + 2 + d) := by rw [evA_swp h, if_neg (by omega), if_neg (by omega)]
    unfold hldF
    rw [ih, e]
def swK (i k : Nat) : Nat := if k = i then i + 1 else if k = i + 1 then i else k
theorem swK_swK (i k : Nat) : swK i (swK i k) = k := by unfold swK; split <;> split <;> (try split) <;> omega
theorem swK_lt {i k n : Nat} (h : i + 1 < n) (hk : k < n) : swK i k < n := by unfold swK; split <;> (try split) <;> omega
theorem evA_swK (h : i + 1 < l.length) (k : Nat) : evA (swpL l i) (swK i k) = evA l k := by
  rw [evA_swp h]
  unfold swK
  by_cases c : k = i
  · subst c; rw [if_pos rfl, if_pos rfl]
  · rw [if_neg c]
    by_cases d : k = i + 1
    · subst d; rw [if_pos rfl, if_neg (by omega), if_pos rfl]
    · rw [if_neg d, if_neg d, if_neg c]
theorem hvL_swK (h : i + 1 < l.length) (hne : (evA l i).go ≠ (evA l (i + 1)).go) (k : Nat) : hvL (swpL l i) (swK i k) = hvL l k := by
  have h0 : ∀ g, hldF (swpL l i) g i = hldF l g i := fun g => hldF_same i fun k hk => by rw [evA_swp h, if_neg (by omega), if_neg (by omega)]
  have e1 : evA (swpL l i) i = evA l (i + 1) := by rw [evA_swp h, if_neg (by omega), if_pos rfl]
  unfold hvL
  rw [evA_swK h]
  by_cases c : k = i
  · subst c
    rw [show swK k k = k + 1 by unfold swK; rw [if_pos rfl]]
    rw [hldF, e1, if_neg (fun q => hne q.symm)]
    exact h0 _
  · by_cases d : k = i + 1
    · subst d
      rw [show swK i (i + 1) = i by unfold swK; rw [if_neg (by omega), if_pos rfl], h0, hldF, if_neg hne]
    · rw [show swK i k = k by unfold swK; rw [if_neg c, if_neg d]]
      by_cases q : k < i
      · exact hldF_same k fun m hm => by rw [evA_swp h, if_neg (by omega), if_neg (by omega)]
      · have := hldF_swp h hne (evA l k).go (k - (i + 2))
        rw [show i + 2 + (k - (i + 2)) = k by omega] at this
        exact this
theorem tks_swp (h : i + 1 < l.length) (hne : (evA l i).go ≠ (evA l (i + 1)).go) (p : Nat) (t : Tk) : t ∈ tksL (swpL l i) p ↔ t ∈ tksL l p := by
  rw [tks_iff, tks_iff, swpL_len]
  constructor
  · rintro ⟨k, hk, q⟩
    refine ⟨swK i k, swK_lt h hk, ?_⟩
    rw [← evA_swK h (swK i k), ← hvL_swK h hne (swK i k), swK_swK]
    exact q
  · rintro ⟨k, hk, q⟩
    refine ⟨swK i k, swK_lt h hk, ?_⟩
    rw [evA_swK h, hvL_swK h hne]
    exact q
def lenE (x : Ev) (H : Nat → Bool) : Nat := if x.op = 55 ∧ 0 ≤ lkN x then ((setL H).filter fun (f : Nat) => ((f : Int) != lkN x)).length else 0
theorem edgeAt_lenE (l : List Ev) (k : Nat) : (edgeAt l k).length = lenE (evA l k) (hvL l k) := by
  unfold edgeAt lenE hvL
  split
  · rw [List.length_map]
  · rfl
theorem edges_swp (h : i + 1 < l.length) (hne : (evA l i).go ≠ (evA l (i + 1)).go) : (edgesL (swpL l i) (swpL l i).length).length = (edgesL l l.length).length := by
  have f : ∀ k, (edgeAt (swpL l i) (swK i k)).length = (edgeAt l k).length := fun k => by rw [edgeAt_lenE, edgeAt_lenE, evA_swK h, hvL_swK h hne]
  have fi : (edgeAt (swpL l i) (i + 1)).length = (edgeAt l i).length := by have := f i; rw [show swK i i = i + 1 by unfold swK; rw [if_pos rfl]] at this; exact this
  have fj : (edgeAt (swpL l i) i).length = (edgeAt l (i + 1)).length := by have := f (i + 1); rw [show swK i (i + 1) = i by unfold swK; rw [if_neg (by omega), if_pos rfl]] at this; exact this
  have fk : ∀ k, k ≠ i → k ≠ i + 1 → (edgeAt (swpL l i) k).length = (edgeAt l k).length := fun k c d => by have := f k; rw [show swK i k = k by unfold swK; rw [if_neg c, if_neg d]] at this; exact this
  have s1 : ∀ m, m ≤ i → (edgesL (swpL l i) m).length = (edgesL l m).length := by
    intro m
    induction m with
    | zero => intro _; rfl
    | succ m ih =>
      intro hm
      rw [edgesL_step, edgesL_step, List.length_append, List.length_append, ih (by omega), fk m (by omega) (by omega)]
  have s2 : ∀ d, (edgesL (swpL l i) (i + 2 + d)).length = (edgesL l (i + 2 + d)).length := by
    intro d
    induction d with
    | zero =>
      show (edgesL (swpL l i) (i + 1 + 1)).length = (edgesL l (i + 1 + 1)).length
      rw [edgesL_step, edgesL_step, edgesL_step, edgesL_step, List.length_append, List.length_append, List.length_append, List.length_append, s1 i (Nat.le_refl _), fi, fj]
      omega
    | succ d ih =>
      show (edgesL (swpL l i) (i + 2 + d + 1)).length = (edgesL l (i + 2 + d + 1)).length
      rw [edgesL_step, edgesL_step, List.length_append, List.length_append, ih, fk _ (by omega) (by omega)]
  rw [swpL_len]
  have := s2 (l.length - (i + 2))
  rw [show i + 2 + (l.length - (i + 2)) = l.length by omega] at this
  exact this
end
/-- Events that do not depend on each other are of different goroutines. -/
theorem go_ne {x y : Ev} (hx : rightP x) (hy : rightP y) (h : clash x.of y.of = false) : x.go ≠ y.go := fun q => by
  have h1 := hx.2.2.2
  have h2 := hy.2.2.2
  rw [← q] at h2
  have := clash_true h1 h2 (by unfold meets; simp)
  rw [this] at h
  cases h
end Go.Proofs.Ytdfnmlcpimiboaa.pg
/- GoodlockSwaps, walked. -/
namespace Go.Proofs.Ytdfnmlcpimiboaa.pg
open Go.ChangeShapes Go.WideShapes Go.ChangeAt Go.RowKit Go.Shelf
set_option linter.unusedVariables false
set_option linter.unusedSimpArgs false
set_option maxRecDepth 100000
attribute [local go_sem ↓] Go.wp_at_zero Go.wp_at_succ
theorem cells_keepG {B : Nat} {t : TypeId} : ∀ (vs : List Value) (o : Nat) (W : World) (cs : Array Value), W.heap[B]? = some (.cells cs t (0, 0)) → ∃ cs', (W.setCells B o vs).heap[B]? = some (.cells cs' t (0, 0)) ∧ cs'.size = cs.size
  | [], o, W, cs, h => ⟨cs, h, rfl⟩
  | v :: vs, o, W, cs, h => by
    simp only [World.setCells]
    rw [setCell_eq_setRow W B o _ _ _ v h]
    obtain ⟨cs', h1, h2⟩ := cells_keepG vs (o + 1) _ _ (setRow_heap W B _ (cs.setIfInBounds o v) _ _ h)
    exact ⟨cs', h1, by rw [h2, Array.size_setIfInBounds]⟩
theorem there_blockG {W : World} {B : Nat} {t : TypeId} {cs : Array Value} (h : W.heap[B]? = some (.cells cs t (0, 0))) {o k : Nat} (hk : o + k ≤ cs.size) : W.there B o k := fun j hj => ⟨by
  rw [cell_of_row W B (o + j) _ _ _ h, Array.getElem?_eq_getElem (by omega)]
  rfl, frozen_of_row _ _ _ _ _ h⟩
/-- Events in a block of the call's own, which are written over. -/
structure UpG (w W : World) (g cap : Nat) (u : List Ev) : Prop where
  r : Rows W 26 (some ⟨g, 0, none⟩) cap (u.map Ev.cells)
  c : ∃ cs, W.heap[g]? = some (.cells cs 55 (0, 0)) ∧ u.length * 26 ≤ cs.size
  b : Below w.heap.size w W
  l : w.heap.size ≤ g
theorem UpG.put {w W : World} {g cap : Nat} {u : List Ev} (h : UpG w W g cap u) {i : Nat} (hi : i < u.length) (x : Ev) : W.there g (i * 26) 26 ∧ UpG w (W.setCells g (i * 26) x.cells) g cap (u.set i x) := by
  obtain ⟨cs, hc, hs⟩ := h.c
  have hle : (i + 1) * 26 ≤ u.length * 26 := Nat.mul_le_mul_right 26 hi
  have ht : W.there g (i * 26) 26 := there_blockG hc (by omega)
  obtain ⟨cs', h1, h2⟩ := cells_keepG x.cells (i * 26) W cs hc
  refine ⟨ht, ?_, ⟨cs', h1, by rw [List.length_set]; omega⟩, below_setCells h.l _ _ _ _ h.b, h.l⟩
  have := rows_put h.r (i := i) (by rw [List.length_map]; exact hi) (row := x.cells) rfl ht
  rw [← List.map_set] at this
  exact this
theorem pick_ixG (p : Int) (n : Nat) (h : 2 ≤ n) (hn : n ≤ 256) : ∃ i : Nat, wrap64 ((IntKind.u64.wrap p).tmod ((n : Int) - 1)) = (i : Int) ∧ i + 1 < n := by
  have h0 : 0 ≤ IntKind.u64.wrap p := by rw [IntKind.wrap_u64]; omega
  have h1 := Int.tmod_nonneg ((n : Int) - 1) h0
  have h2 := Int.tmod_lt_of_pos (IntKind.u64.wrap p) (b := (n : Int) - 1) (by omega)
  generalize (IntKind.u64.wrap p).tmod ((n : Int) - 1) = r at *
  refine ⟨r.toNat, ?_, by omega⟩
  simp only [wrap64]
  omega
theorem upG_of {w w2 : World} {va : Option Addr} {vc : Nat} {l : List Ev} (h : OwnL w2 w.heap.size 55 26 va vc (l.map Ev.cells)) (hb : Below w.heap.size w w2) (hpos : 0 < l.length) : ∃ g, va = some ⟨g, 0, none⟩ ∧ UpG w w2 g vc l := by
  have hlen : (l.map Ev.cells).length = l.length := by simp
  rcases own_block h with ⟨_, h1, _⟩ | ⟨g, h1, h2, h3⟩
  · rw [hlen] at h1; omega
  · subst h1
    refine ⟨g, rfl, own_rows h (evs_rowsG l).1, ?_, hb, h2⟩
    rcases h.2 with ⟨q, _⟩ | ⟨g', cap', cur, q, hb, hg', a1, a2, a3, a4⟩
    · simp only [Value.slice.injEq] at q; cases q.1
    · simp only [Value.slice.injEq, Option.some.injEq, Addr.mk.injEq, and_true, true_and] at q
      rw [q.1]
      refine ⟨cur, hg', ?_⟩
      rw [hlen] at a1
      have := Nat.mul_le_mul_right 26 a1
      omega
theorem evA_get {l : List Ev} {k : Nat} (h : k < l.length) : l[k]? = some (evA l k) := by
  obtain ⟨x, hx, _⟩ := get_lt l k h
  rw [evA_at hx, hx]
theorem check_swp {l : List Ev} {i : Nat} (hi : i + 1 < l.length) (hc : checkP l 0) : checkP (swpL l i) 0 := by
  obtain ⟨h1, h2⟩ := check_zero hc
  exact .inr (.inr ⟨by rw [swpL_len]; exact h1, fun x hx => h2 x (swpL_mem hi hx), rfl⟩)
set_option maxHeartbeats 4000000 in
theorem swaps_outG (l : List Ev) (la : Option Addr) (lc : Nat) (pick : Int) (w : World) (hl : Rows w 26 la lc (l.map Ev.cells)) (c : Int) (hc : checkP l c) (h : (c != 0) = true ∨ ((c != 0) = false ∧ (l.length : Int) < 2)) :
    Calls Try.prog 6 #[.slice la l.length lc, .int .i64 pick] w fun e w' => e = .returned (.bool true) ∧ Below w.heap.size w w' := by
  have k1 := rcheck_any l la lc w hl c hc
  have hlI := rows_len hl
  have cS : ∀ wx, Calls Try.prog 15 #[] wx _ := fun wx => smallG_any wx
  clear hl hc
  rcases h with d | ⟨d, d2⟩
  all_goals
    go_enter Try.func6, Try.ntmps6
    go_wp2_with (first
      | (go_at_call 21; (with_reducible refine k1.mono ?_); rintro e w1 ⟨rfl, hb1⟩; (have hB : Hid (Below w.heap.size w w1) := hb1); clear hb1 k1)
      | (go_at_call 15; (with_reducible refine (cS _).mono ?_); rintro e wA ⟨rfl, hb⟩; (have kA : Hid (Below w.heap.size w wA) := bthen hB.out hb); clear hb cS))
    go_ret
    exact ⟨rfl, kA.out⟩
set_option maxHeartbeats 8000000 in
theorem swaps_inG (l : List Ev) (la : Option Addr) (lc : Nat) (pick : Int) (w : World) (hl : Rows w 26 la lc (l.map Ev.cells)) (hc : checkP l 0) (h2 : 2 ≤ l.length) :
    Calls Try.prog 6 #[.slice la l.length lc, .int .i64 pick] w fun e w' => e = .returned (.bool true) ∧ Below w.heap.size w w' := by
  have k1 := rcheck_any l la lc w hl 0 hc
  obtain ⟨hn, hr⟩ := check_zero hc
  have hlI : (l.length : Int) ≤ 256 := by omega
  have h2I : (2 : Int) ≤ (l.length : Int) := by omega
  have d2 : ¬ ((l.length : Int) < 2) := by omega
  obtain ⟨i, ei, hi⟩ := pick_ixG pick l.length h2 hn
  obtain ⟨D, hD⟩ : ∃ D, clash (evA l i).of (evA l (i + 1)).of = D := ⟨_, rfl⟩
  have hrow : Hid (∀ wx, Below w.heap.size w wx → Rows wx 26 la lc (l.map Ev.cells)) := fun wx hb => hl.later hb
  have hat : Hid (l[i]? = some (evA l i) ∧ l[i + 1]? = some (evA l (i + 1))) := ⟨evA_get (by omega), evA_get hi⟩
  have hgo : Hid (D = false → (evA l i).go ≠ (evA l (i + 1)).go) := fun q => go_ne (hr _ (List.mem_of_getElem? hat.out.1)) (hr _ (List.mem_of_getElem? hat.out.2)) (hD.trans q)
  have cD : Hid (∀ wx, Calls Try.prog 22 #[.agg (evA l i).cells.toArray, .agg (evA l (i + 1)).cells.toArray] wx fun e w' => e = .returned (.bool D) ∧ Below wx.heap.size wx w') := fun wx => dependent_any _ _ wx D (show D = _ from hD.symm)
  have c1 : ∀ wx, Below w.heap.size w wx → Calls Try.prog 16 #[.slice la l.length lc] wx _ := fun wx q => gRings_any (hl.later q) 0 hc
  have c3 : ∀ wx, Below w.heap.size w wx → Calls Try.prog 8 #[.slice la l.length lc] wx _ := fun wx q => gEdges_any (hl.later q) 0 hc
  have c5 : ∀ (wx : World) (s : Rng), Below w.heap.size w wx → Rows wx 1 s.1 s.2.2 ((asZ s.2.1).map chCells) → Calls Try.prog 18 #[.slice la l.length lc, .slice s.1 s.2.1.length s.2.2] wx fun e w' => e = .returned (.tuple #[.bool (grdR l (asZ s.2.1) 0).1, .int .i64 (grdR l (asZ s.2.1) 0).2]) ∧ Below wx.heap.size wx w' := fun wx s q hr => by
    have h := gGuarded_any (hl.later q) hr 0 hc
    rw [show (asZ s.2.1).length = s.2.1.length by simp [asZ]] at h
    exact h
  have c7 : ∀ (wx : World) (a b : Option Addr) (ca cb : Nat) (P Q : List Rng), P.map (·.2.1) = Q.map (·.2.1) → RgR wx a ca P → RgR wx b cb Q → Calls Try.prog 20 #[.slice a P.length ca, .slice b Q.length cb] wx _ := fun wx a b ca cb P Q h h1 h2 => sameRows_any P Q h h1 h2
  have cS : ∀ wx, Calls Try.prog 15 #[] wx _ := fun wx => smallG_any wx
  have hcu : Hid (checkP (swpL l i) 0) := check_swp hi hc
  have hsw : Hid (swpL l i = (l.set i (evA l (i + 1))).set (i + 1) (evA l i)) := rfl
  have hiE : Hid ((Try.prog.info? 55).map (·.size) = some 26) := infoE26
  have huE : Hid (Try.prog.underlying 55 = _) := Try.underlying55
  have hone : Hid (∀ z : Ev, z.cells.toArray.all (·.oneCell') = true ∧ (Try.prog.info? 55).map (·.size) = some z.cells.toArray.size) := fun z => ⟨ev_one z, infoE_evG z⟩
  obtain ⟨iE, hiE', hzE', hsE', hbE'⟩ := info_q infoEvG
  have hiH : Hid (Try.prog.info? 55 = some iE ∧ iE.zero = some (.agg evZG.cells.toArray) ∧ iE.size = 26 ∧ iE.bytes = 208) := ⟨hiE', hzE', hsE', hbE'⟩
  have hlen : Hid ((l.map Ev.cells).length = l.length) := by show _ = _; simp
  have hk : Hid ((∀ row ∈ l.map Ev.cells, row.length = 26) ∧ ∀ row ∈ l.map Ev.cells, ∀ u ∈ row, u.oneCell' = true) := evs_rowsG l
  have hnH : Hid (l.length ≤ 256 ∧ 0 < l.length) := ⟨hn, by omega⟩
  clear hl hD hiE' hzE' hsE' hbE' hr hc
  go_enter Try.func6, Try.ntmps6
  go_upto_region 4 with (go_at_call 21; (with_reducible refine k1.mono ?_); rintro e w1 ⟨rfl, hb1⟩; (have hB : Hid (Below w.heap.size w w1) := hb1); clear hb1 k1)
  rw [ei]
  clear ei
  have hiI : (i : Int) + 1 < (l.length : Int) := by omega
  have hw1 : wrap64 ((i : Int) + 1) = (i : Int) + 1 := by simp only [wrap64]; omega
  have ec : (((i + 1 : Nat)) : Int) = (i : Int) + 1 := by omega
  obtain ⟨a, ha⟩ : ∃ a, evA l i = a := ⟨_, rfl⟩
  obtain ⟨b, hb⟩ : ∃ b, evA l (i + 1) = b := ⟨_, rfl⟩
  have habH : Hid (evA l i = a ∧ evA l (i + 1) = b) := ⟨ha, hb⟩
  rw [ha] at hat hsw cD
  rw [hb] at hat hsw cD
  clear ha hb
  obtain ⟨b1, o1, x1, l1, r1⟩ := ev_row (hrow.out w1 hB.out) i a hat.out.1
  obtain ⟨b2, o2, x2, l2, r2⟩ := ev_row (hrow.out w1 hB.out) (i + 1) b hat.out.2
  rw [ec] at x2
  have hRd : Hid (∀ w', Below w1.heap.size w1 w' → w'.rangeAt b1 o1 a.cells ∧ w'.rangeAt b2 o2 b.cells) := fun w' z => ⟨range_blkG r1 (z.block _ l1), range_blkG r2 (z.block _ l2)⟩
  have hS : Hid (Below w1.heap.size w1 w1.drew) := bey_drew w1
  clear r1 r2 l1 l2
  refine wp_region_noPanic ?_
  refine wp_region_held_drew (S := fun w' => Below w1.heap.size w1 w') (by kernel_rfl) hS.out (fun _ => ?_)
  refine reg_move (i := 0) rfl (by kernel_rfl) (by kernel_rfl) (by kernel_rfl) (fun _ _ _ _ h => h) rfl (.slice la l.length lc) (fun _ => rfl) hS.out ?_
  simp only [Act.put, List.getElem_toArray, List.getElem_cons_succ, List.getElem_cons_zero, List.setIfInBounds_toArray, List.set_cons_zero, List.set_cons_succ]
  refine reg_move (i := 1) rfl (by kernel_rfl) (by kernel_rfl) (by kernel_rfl) (fun _ _ _ _ h => h) rfl (.int .i64 (i : Int)) (fun _ => rfl) hS.out ?_
  simp only [Act.put, List.getElem_toArray, List.getElem_cons_succ, List.getElem_cons_zero, List.setIfInBounds_toArray, List.set_cons_zero, List.set_cons_succ]
  refine reg_move (i := 2) rfl (by kernel_rfl) (by kernel_rfl) (by kernel_rfl) (fun _ _ _ _ h => h) rfl (.pointer (some ⟨b1, o1, none⟩)) (fun wx => by unfold execOp; exact run_value_of (x1 wx)) hS.out ?_
  simp only [Act.put, List.getElem_toArray, List.getElem_cons_succ, List.getElem_cons_zero, List.setIfInBounds_toArray, List.set_cons_zero, List.set_cons_succ]
  refine reg_load (i := 3) rfl (by kernel_rfl) (by kernel_rfl) (by kernel_rfl) (fun _ _ _ _ h => h) rfl 55 _ rfl b1 o1 rfl a.cells _ (fun w' z => (hRd.out w' z).1) Try.underlying55 rfl infoE26 hS.out ?_
  simp only [Act.put, List.getElem_toArray, List.getElem_cons_succ, List.getElem_cons_zero, List.setIfInBounds_toArray, List.set_cons_zero, List.set_cons_succ]
  refine reg_move (i := 4) rfl (by kernel_rfl) (by kernel_rfl) (by kernel_rfl) (fun _ _ _ _ h => h) rfl (.slice la l.length lc) (fun _ => rfl) hS.out ?_
  simp only [Act.put, List.getElem_toArray, List.getElem_cons_succ, List.getElem_cons_zero, List.setIfInBounds_toArray, List.set_cons_zero, List.set_cons_succ]
  refine reg_move (i := 5) rfl (by kernel_rfl) (by kernel_rfl) (by kernel_rfl) (fun _ _ _ _ h => h) rfl (.int .i64 (i : Int)) (fun _ => rfl) hS.out ?_
  simp only [Act.put, List.getElem_toArray, List.getElem_cons_succ, List.getElem_cons_zero, List.setIfInBounds_toArray, List.set_cons_zero, List.set_cons_succ]
  refine reg_move (i := 6) rfl (by kernel_rfl) (by kernel_rfl) (by kernel_rfl) (fun _ _ _ _ h => h) rfl (.int .i64 ((i : Int) + 1)) (fun wx => by unfold execOp; exact run_value_of (add_oneG _ hw1 _ _ wx)) hS.out ?_
  simp only [Act.put, List.getElem_toArray, List.getElem_cons_succ, List.getElem_cons_zero, List.setIfInBounds_toArray, List.set_cons_zero, List.set_cons_succ]
  refine reg_move (i := 7) rfl (by kernel_rfl) (by kernel_rfl) (by kernel_rfl) (fun _ _ _ _ h => h) rfl (.pointer (some ⟨b2, o2, none⟩)) (fun wx => by unfold execOp; exact run_value_of (x2 wx)) hS.out ?_
  simp only [Act.put, List.getElem_toArray, List.getElem_cons_succ, List.getElem_cons_zero, List.setIfInBounds_toArray, List.set_cons_zero, List.set_cons_succ]
  refine reg_load (i := 8) rfl (by kernel_rfl) (by kernel_rfl) (by kernel_rfl) (fun _ _ _ _ h => h) rfl 55 _ rfl b2 o2 rfl b.cells _ (fun w' z => (hRd.out w' z).2) Try.underlying55 rfl infoE26 hS.out ?_
  simp only [Act.put, List.getElem_toArray, List.getElem_cons_succ, List.getElem_cons_zero, List.setIfInBounds_toArray, List.set_cons_zero, List.set_cons_succ]
  refine reg_call2 (i := 9) (by kernel_rfl) rfl rfl 22 _ _ _ _ rfl (.agg a.cells.toArray) (.agg b.cells.toArray) rfl rfl (cf_fn Try.func22 (by kernel_rfl) (by kernel_rfl) _ _) _ (cD.out w1.drew) ?_
  rintro e w2 ⟨rfl, hb2⟩
  have hS2 : Hid (Below w1.heap.size w1 w2) := bthen hS.out hb2
  refine ⟨_, rfl, hS2.out, fun _ => ?_⟩
  simp only [Act.put, List.getElem_toArray, List.getElem_cons_succ, List.getElem_cons_zero, List.setIfInBounds_toArray, List.set_cons_zero, List.set_cons_succ]
  refine wpAnyH_done (by kernel_rfl) (NoPanic.normal ?_) _
  have hw2 : Hid (Below w.heap.size w w2) := bthen hB.out hS2.out
  clear hRd hS hS2 hb2 hB x1 x2 cD
  cases D with
  | true =>
    clear c1 c3 c5 c7 hcu hsw hiH hgo
    go_wp2_with (go_at_call 15; (with_reducible refine (cS _).mono ?_); rintro e wA ⟨rfl, hb⟩; (have kA : Hid (Below w.heap.size w wA) := bthen hw2.out hb); clear hb cS)
    go_ret
    exact ⟨rfl, kA.out⟩
  | false =>
    have hne := hgo.out rfl
    have c2 : ∀ wx ga cap, Rows wx 26 ga cap ((swpL l i).map Ev.cells) → Calls Try.prog 16 #[.slice ga l.length cap] wx fun e w' => ∃ a cap P, e = .returned (.tuple #[.slice a P.length cap, .int .i64 0]) ∧ P.map (·.2.1) = rngR l 0 ∧ RsM wx w' a cap P := fun wx ga cap q => by
      have h := gRings_any q 0 hcu.out
      rw [swpL_len, rngR_mem (tks_swp hi hne)] at h
      exact h
    have hel : Hid ((edgR (swpL l i) 0).1.length = (edgR l 0).1.length) := by
      show _ = _
      unfold edgR
      rw [if_pos rfl, if_pos rfl]
      exact edges_swp hi hne
    have c4 : ∀ wx ga cap, Rows wx 26 ga cap ((swpL l i).map Ev.cells) → Calls Try.prog 8 #[.slice ga l.length cap] wx fun e w' => ∃ a cap, e = .returned (.tuple #[.slice a (edgR l 0).1.length cap, .int .i64 0]) ∧ Rows w' 4 a cap ((edgR (swpL l i) 0).1.map Ed.cells) ∧ Below wx.heap.size wx w' := fun wx ga cap q => by
      have h := gEdges_any q 0 hcu.out
      rw [swpL_len, hel.out] at h
      exact h
    have c6 : ∀ (wx : World) (ga : Option Addr) (cap : Nat) (s : Rng), Rows wx 26 ga cap ((swpL l i).map Ev.cells) → Rows wx 1 s.1 s.2.2 ((asZ s.2.1).map chCells) → Calls Try.prog 18 #[.slice ga l.length cap, .slice s.1 s.2.1.length s.2.2] wx fun e w' => e = .returned (.tuple #[.bool (grdR l (asZ s.2.1) 0).1, .int .i64 (grdR l (asZ s.2.1) 0).2]) ∧ Below wx.heap.size wx w' := fun wx ga cap s q hr => by
      have h := gGuarded_any q hr 0 hcu.out
      rw [show (asZ s.2.1).length = s.2.1.length by simp [asZ], swpL_len, grdR_mem (tks_swp hi hne)] at h
      exact h
    have e5 : ((edgR l 0).1.length : Int) ≤ 9223372036854775807 := by
      have h := edgesL_len l l.length
      unfold edgR
      rw [if_pos rfl]
      show ((edgesL l l.length).length : Int) ≤ _
      have := hnH.out.1
      omega
    generalize (edgR l 0).1.length = ne at *
    clear hel hgo hne hcu habH
    go_upto_region 8 with (at_builtin; (refine wpList_app rfl (.tmp 49) (.tmp 50) 22 rfl w2.heap.size 55 iE _ 26 208 Try.underlying22 hiH.out.1 hiH.out.2.1 hiH.out.2.2.1 hiH.out.2.2.2 rfl (by decide) none 0 [] rfl (own_nil_q _ _ _ _) la lc (l.map Ev.cells) (by rw [hlen.out]; rfl) (hrow.out w2 hw2.out) hk.out.1 hk.out.2 (by rw [hlen.out]; have := hnH.out.1; simp only [List.length_nil]; unfold maxLen; omega) (by rw [hlen.out]; have := hnH.out.1; simp only [List.length_nil]; omega) (Nat.le_refl _) ?_); intro va vc w4 h1 h2' h3 h4; (have hO : Hid (OwnL w4 w2.heap.size 55 26 va vc (l.map Ev.cells) ∧ Below w2.heap.size w2 w4) := ⟨h1, h3.mono (by omega)⟩); rw [List.nil_append, hlen.out]; clear h1 h2' h3 h4)
    obtain ⟨g, hg, hup⟩ := upG_of hO.out.1 hO.out.2 hnH.out.2
    subst hg
    obtain ⟨w3, hw33⟩ : ∃ w3, w2 = w3 := ⟨_, rfl⟩
    have hw4 : Hid (Below w.heap.size w w4 ∧ UpG w2 w4 g vc l) := ⟨bthen hw2.out hO.out.2, hup⟩
    clear hO hup
    rw [hw33] at hw4 hw2
    have hw3 : Hid (Below w.heap.size w w3) := hw2
    clear hw2 hw33
    generalize vc = cap at *
    obtain ⟨b2, o2, x2, l2, r2⟩ := ev_row (hrow.out w4 hw4.out.1) (i + 1) b hat.out.2
    rw [ec] at x2
    have hr2 : Hid (w4.rangeAt b2 o2 b.cells) := r2
    have x3 := rows_ix_g (t := 22) (e := 55) (k := 26) Try.underlying22 (fun wx => Try.sizeOf55 wx) g l.length cap i (by omega)
    have p1 : Hid (w4.there g (i * 26) 26 ∧ UpG w3 (w4.setCells g (i * 26) b.cells) g cap (l.set i b)) := hw4.out.2.put (by omega) b
    clear r2 l2
    go_upto_region 9 with (first
      | ((with_reducible refine at_loadG 55 _ rfl ?_); refine stopG_out ?_; refine wpList_load_mid rfl 55 _ rfl b2 o2 rfl b.cells _ hr2.out huE.out rfl hiE.out ?_)
      | ((with_reducible refine at_storeG 55 _ _ rfl ?_); refine stopG_out ?_; refine wpList_store_mid rfl 55 _ _ rfl g (i * 26) b.cells.toArray rfl rfl p1.out.1 (hone.out b).2 (hone.out b).1 ?_))
    change Code.wp _ _ _ _ (w4.setCells g (i * 26) b.cells)
    have p2 : Hid (UpG w3 (w4.setCells g (i * 26) b.cells) g cap (l.set i b)) := p1.out.2
    clear p1 x2 hr2
    generalize w4.setCells g (i * 26) b.cells = W5 at *
    have hbw5 : Hid (Below w.heap.size w W5) := bthen hw3.out p2.out.b
    obtain ⟨b1, o1, x1, l1, r1⟩ := ev_row (hrow.out W5 hbw5.out) i a hat.out.1
    have hr1 : Hid (W5.rangeAt b1 o1 a.cells) := r1
    have x4 := rows_ix_g (t := 22) (e := 55) (k := 26) Try.underlying22 (fun wx => Try.sizeOf55 wx) g l.length cap (i + 1) (by omega)
    rw [ec] at x4
    have p3 : Hid (W5.there g ((i + 1) * 26) 26 ∧ UpG w3 (W5.setCells g ((i + 1) * 26) a.cells) g cap ((l.set i b).set (i + 1) a)) := p2.out.put (by rw [List.length_set]; exact hi) a
    clear r1 l1 p2 x3
    go_upto_region 10 with (first
      | ((with_reducible refine at_loadG 55 _ rfl ?_); refine stopG_out ?_; refine wpList_load_mid rfl 55 _ rfl b1 o1 rfl a.cells _ hr1.out huE.out rfl hiE.out ?_)
      | ((with_reducible refine at_storeG 55 _ _ rfl ?_); refine stopG_out ?_; refine wpList_store_mid rfl 55 _ _ rfl g ((i + 1) * 26) a.cells.toArray rfl rfl p3.out.1 (hone.out a).2 (hone.out a).1 ?_))
    change Code.wp _ _ _ _ (W5.setCells g ((i + 1) * 26) a.cells)
    have p4 : Hid (Below w.heap.size w (W5.setCells g ((i + 1) * 26) a.cells) ∧ Rows (W5.setCells g ((i + 1) * 26) a.cells) 26 (some ⟨g, 0, none⟩) cap ((swpL l i).map Ev.cells)) := by
      rw [hsw.out]
      exact ⟨bthen hw3.out p3.out.2.b, p3.out.2.r⟩
    clear p3 x1 x4 hr1 hsw hw4
    generalize W5.setCells g ((i + 1) * 26) a.cells = W6 at *
    go_upto_region 11 with (go_at_call 16; (with_reducible refine (c1 _ p4.out.1).mono ?_); rintro e w7 ⟨pa, pc, P, rfl, hm, hM⟩; (have k7 : Hid (Below w.heap.size w w7 ∧ Rows w7 26 (some ⟨g, 0, none⟩) cap ((swpL l i).map Ev.cells) ∧ RgR w7 pa pc P ∧ P.map (·.2.1) = rngR l 0) := ⟨bthen p4.out.1 hM.b, p4.out.2.later hM.b, rgR_of hM.l, hm⟩); clear hm hM c1)
    go_upto_region 12 with (go_at_call 16; (with_reducible refine (c2 _ _ _ k7.out.2.1).mono ?_); rintro e w8 ⟨qa, qc, Q, rfl, hm, hM⟩; (have k8 : Hid (Below w.heap.size w w8 ∧ Rows w8 26 (some ⟨g, 0, none⟩) cap ((swpL l i).map Ev.cells) ∧ RgR w8 pa pc P ∧ P.map (·.2.1) = rngR l 0 ∧ RgR w8 qa qc Q ∧ P.map (·.2.1) = Q.map (·.2.1)) := ⟨bthen k7.out.1 hM.b, k7.out.2.1.later hM.b, k7.out.2.2.1.later hM.b, k7.out.2.2.2, rgR_of hM.l, k7.out.2.2.2.trans hm.symm⟩); clear hm hM c2)
    go_upto_region 13 with (go_at_call 8; (with_reducible refine (c3 _ k8.out.1).mono ?_); rintro e w9 ⟨ea, ecp, rfl, hr, hb⟩; (have k9 : Hid (Below w.heap.size w w9 ∧ Rows w9 26 (some ⟨g, 0, none⟩) cap ((swpL l i).map Ev.cells) ∧ RgR w9 pa pc P ∧ P.map (·.2.1) = rngR l 0 ∧ RgR w9 qa qc Q ∧ P.map (·.2.1) = Q.map (·.2.1)) := ⟨bthen k8.out.1 hb, k8.out.2.1.later hb, k8.out.2.2.1.later hb, k8.out.2.2.2.1, k8.out.2.2.2.2.1.later hb, k8.out.2.2.2.2.2⟩); clear hr hb c3)
    go_upto_region 14 with (go_at_call 8; (with_reducible refine (c4 _ _ _ k9.out.2.1).mono ?_); rintro e wB ⟨fa, fc, rfl, hr, hb⟩; (have kB : Hid (Below w.heap.size w wB ∧ Rows wB 26 (some ⟨g, 0, none⟩) cap ((swpL l i).map Ev.cells) ∧ RgR wB pa pc P ∧ P.map (·.2.1) = rngR l 0 ∧ RgR wB qa qc Q ∧ P.map (·.2.1) = Q.map (·.2.1)) := ⟨bthen k9.out.1 hb, k9.out.2.1.later hb, k9.out.2.2.1.later hb, k9.out.2.2.2.1, k9.out.2.2.2.2.1.later hb, k9.out.2.2.2.2.2⟩); clear hr hb c4)
    clear k7 k8 k9 p4
    go_upto_region 16 with (go_at_call 20; (with_reducible refine (c7 _ _ _ _ _ _ _ kB.out.2.2.2.2.2 kB.out.2.2.1 kB.out.2.2.2.2.1).mono ?_); rintro e wC ⟨rfl, hb⟩; (have kC : Hid (Below w.heap.size w wC ∧ Rows wC 26 (some ⟨g, 0, none⟩) cap ((swpL l i).map Ev.cells) ∧ RgR wC pa pc P ∧ P.map (·.2.1) = rngR l 0) := ⟨bthen kB.out.1 hb, kB.out.2.1.later hb, kB.out.2.2.1.later hb, kB.out.2.2.2.1⟩); clear hb c7)
    have hPI : (P.length : Int) ≤ 9223372036854775807 := rows_len kC.out.2.2.1.1
    clear kB
    go_wp2_with fail
    go_loopw [109] (fun u wr => ∃ j : Nat, j ≤ P.length ∧ u = .int .i64 (j : Int) ∧ Hid (Below w.heap.size w wr ∧ Rows wr 26 (some ⟨g, 0, none⟩) cap ((swpL l i).map Ev.cells) ∧ RgR wr pa pc P)) (fun u _ => P.length - (intOf u).toNat)
    case atStart => exact ⟨0, Nat.zero_le _, rfl, kC.out.1, kC.out.2.1, kC.out.2.2.1⟩
    case round =>
      obtain ⟨j, hj, rfl, hq⟩ := hrel
      clear kC
      by_cases hlj : j < P.length
      · have hjI : (j : Int) < P.length := by omega
        obtain ⟨s, hs⟩ : ∃ s, P[j]? = some s := ⟨_, List.getElem?_eq_getElem hlj⟩
        have hsm := List.mem_of_getElem? hs
        obtain ⟨b0, o0, x0, _, k0⟩ := rr_ix hq.out.2.2 j s hs
        have hrs : Hid (∀ wx, Below wr.heap.size wr wx → Rows wx 1 s.1 s.2.2 ((asZ s.2.1).map chCells)) := fun wx q => (hq.out.2.2.2 s hsm).later q
        obtain ⟨gv, hgv⟩ : ∃ gv, grdR l (asZ s.2.1) 0 = gv := ⟨_, rfl⟩
        have d5 : Calls Try.prog 18 #[.slice la l.length lc, .slice s.1 s.2.1.length s.2.2] wr fun e w' => e = .returned (.tuple #[.bool gv.1, .int .i64 gv.2]) ∧ Below wr.heap.size wr w' := by
          have h := c5 wr s hq.out.1 (hrs.out wr (Below.refl _ _))
          rw [hgv] at h
          exact h
        have d6 : ∀ wx, Below wr.heap.size wr wx → Calls Try.prog 18 #[.slice (some ⟨g, 0, none⟩) l.length cap, .slice s.1 s.2.1.length s.2.2] wx fun e w' => e = .returned (.tuple #[.bool gv.1, .int .i64 gv.2]) ∧ Below wx.heap.size wx w' := fun wx q => by
          have h := c6 wx _ _ s (hq.out.2.1.later q) (hrs.out wx q)
          rw [hgv] at h
          exact h
        have hsI : (s.2.1.length : Int) ≤ 9223372036854775807 := by
          have h := rows_len (hrs.out wr (Below.refl _ _))
          rw [show (asZ s.2.1).length = s.2.1.length by simp [asZ]] at h
          exact h
        obtain ⟨bv, iv⟩ := gv
        have e4 : (bv != bv) = false := by simp
        clear hgv hs hsm
        obtain ⟨s1, sl, s3⟩ := s
        go_upto_region 20 with (go_at_call 18; (with_reducible refine d5.mono ?_); rintro e w6 ⟨rfl, hb⟩; (have k6 : Hid (Below wr.heap.size wr w6) := hb); clear hb d5)
        go_wp2_with (go_at_call 18; (with_reducible refine (d6 _ k6.out).mono ?_); rintro e w7 ⟨rfl, hb⟩; (have k7 : Hid (Below w.heap.size w w7 ∧ Rows w7 26 (some ⟨g, 0, none⟩) cap ((swpL l i).map Ev.cells) ∧ RgR w7 pa pc P) := ⟨bthen hq.out.1 (bthen k6.out hb), hq.out.2.1.later (bthen k6.out hb), hq.out.2.2.later (bthen k6.out hb)⟩); clear hb d6)
        go_roundw
        case rel => exact ⟨j + 1, by omega, by go_num, k7.out⟩
        case measure => simp [intOf]; omega
      · have hje : j = P.length := by omega
        have hjI : ¬ (j : Int) < P.length := by omega
        go_wp2_with (go_at_call 15; (with_reducible refine (cS _).mono ?_); rintro e wA ⟨rfl, hb⟩; (have kA : Hid (Below w.heap.size w wA) := bthen hq.out.1 hb); clear hb cS)
        go_ret
        exact ⟨rfl, kA.out⟩
theorem swaps_row (l : List Ev) (la : Option Addr) (lc : Nat) (pick : Int) (w : World) (hl : EvsIn w la lc l) (_ : (Lit.int .i64 pick).wf = true) : Calls Try.prog 6 #[.slice la l.length lc, .int .i64 pick] w fun e w' => e = .returned (.bool true) ∧ Below w.heap.size w w' := by
  obtain ⟨c, hc⟩ := check_ex l
  by_cases h0 : c = 0
  · subst h0
    by_cases h2 : 2 ≤ l.length
    · exact swaps_inG l la lc pick w hl.1 hc h2
    · exact swaps_outG l la lc pick w hl.1 0 hc (.inr ⟨rfl, by omega⟩)
  · exact swaps_outG l la lc pick w hl.1 c hc (.inl (by rw [bne_iff_ne]; exact h0))
end Go.Proofs.Ytdfnmlcpimiboaa.pg
