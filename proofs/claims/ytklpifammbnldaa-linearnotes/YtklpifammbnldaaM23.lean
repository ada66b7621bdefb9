/- A search for an order: how it lies in memory, what was tried. -/
import Derived.Test.YtklpifammbnldaaM22
import Derived.Test.YtklpifammbnldaaM4
import Derived.Maps.OwnOps
import Derived.Maps.OwnSet
import Derived.DeepKeys4
import Derived.MapViews
import Derived.Test.YtklpifammbnldaaM5
namespace Go.Proofs.Ytklpifammbnldaa.pg
open Go.ChangeShapes Go.WideShapes Go.ChangeAt Go.RowKit
open Go.Maps (Keyed IsMap)
set_option linter.unusedVariables false
set_option linter.unusedSimpArgs false
set_option maxRecDepth 100000
/-- What must be done ahead of place i, as the search keeps it. -/
def ahR (rel : Cl → Cl → Bool) (h : List Cl) (i j : Nat) : Bool := decide (i < h.length) && (decide (j < h.length) && rel (hf h j) (hf h i))
theorem has_whole {h : List Cl} (hn : h.length ≤ 8) (f : Nat → Bool) : hasB f (lastK h h.length) = wholeB h f := by
  rw [Bool.eq_iff_iff]
  unfold hasB wholeB lastK
  rw [List.all_eq_true, List.all_eq_true]
  constructor
  · intro q i hi
    have hi' := List.mem_range.mp hi
    have := q i (List.mem_range.mpr (by omega))
    simp only [hi', decide_true, Bool.true_and, Bool.not_not] at this
    exact this
  · intro q i hi
    by_cases e : i < h.length
    · have := q i (List.mem_range.mpr e)
      simp only [e, decide_true, Bool.true_and, Bool.not_not]
      exact this
    · simp [e]
theorem has_may {rel : Cl → Cl → Bool} {h : List Cl} (hn : h.length ≤ 8) {i : Nat} (hi : i < h.length) (f : Nat → Bool) : mayB rel h f i = (!f i && hasB f (ahR rel h i)) := by
  unfold mayB
  congr 1
  rw [Bool.eq_iff_iff]
  unfold hasB ahR
  rw [List.all_eq_true, List.all_eq_true]
  constructor
  · intro q j hj
    by_cases e : j < h.length
    · have := q j (List.mem_range.mpr e)
      simp only [hi, e, decide_true, Bool.true_and]
      exact this
    · simp [e]
  · intro q j hj
    have hj' := List.mem_range.mp hj
    have := q j (List.mem_range.mpr (by omega))
    simp only [hi, hj', decide_true, Bool.true_and] at this
    exact this
abbrev TS : TypeId := 106
/-- A search's cells. -/
def srL (k : Int) (ha : Option Addr) (n hc : Nat) (must ahd : Nat → Bool) (mb : Nat) (oa : Option Addr) (on oc : Nat) : List Value :=
  (vT k).toList ++ (.slice ha n hc :: ((boolRow 8 must).toList ++ ((boolRow 64 ahd).toList ++ [.map (some mb), .slice oa on oc])))
abbrev oSr (k : Int) (ha : Option Addr) (n hc : Nat) (must ahd : Nat → Bool) (mb : Nat) (oa : Option Addr) (on oc : Nat) : Obj := .cells (srL k ha n hc must ahd mb oa on oc).toArray TS
section
variable {k : Int} {ha : Option Addr} {n hc : Nat} {must ahd : Nat → Bool} {mb : Nat} {oa : Option Addr} {on oc : Nat}
theorem row_len (m : Nat) (f : Nat → Bool) : (boolRow m f).toList.length = m := by simp [boolRow]
theorem row_get {m : Nat} {f : Nat → Bool} {j : Nat} (h : j < m) : (boolRow m f).toList[j]? = some (.bool (f j)) := by simp [boolRow, h]
theorem vT_len (k : Int) : (vT k).toList.length = 13 := rfl
theorem sr_len : (srL k ha n hc must ahd mb oa on oc).length = 88 := by
  unfold srL
  simp only [List.length_append, List.length_cons, row_len, List.length_nil, vT_len]
theorem sr_th {j : Nat} (h : j < 13) : (srL k ha n hc must ahd mb oa on oc)[j]? = (vT k).toList[j]? := List.getElem?_append_left h
theorem sr_from (j : Nat) : (srL k ha n hc must ahd mb oa on oc)[13 + j]? = (Value.slice ha n hc :: ((boolRow 8 must).toList ++ ((boolRow 64 ahd).toList ++ [.map (some mb), .slice oa on oc])))[j]? := by
  unfold srL
  rw [List.getElem?_append_right (by rw [vT_len]; omega), vT_len]
  congr 1
  omega
theorem sr_calls : (srL k ha n hc must ahd mb oa on oc)[13]? = some (.slice ha n hc) := sr_from 0
theorem sr_must {j : Nat} (h : j < 8) : (srL k ha n hc must ahd mb oa on oc)[14 + j]? = some (.bool (must j)) := by
  rw [show 14 + j = 13 + (j + 1) by omega, sr_from, List.getElem?_cons_succ, List.getElem?_append_left (by rw [row_len]; exact h), row_get h]
theorem sr_ahd {j : Nat} (h : j < 64) : (srL k ha n hc must ahd mb oa on oc)[22 + j]? = some (.bool (ahd j)) := by
  rw [show 22 + j = 13 + (8 + j + 1) by omega, sr_from, List.getElem?_cons_succ, List.getElem?_append_right (by rw [row_len]; omega), row_len, List.getElem?_append_left (by rw [row_len]; omega), show 8 + j - 8 = j by omega, row_get h]
theorem sr_end (j : Nat) : (srL k ha n hc must ahd mb oa on oc)[86 + j]? = ([.map (some mb), .slice oa on oc] : List Value)[j]? := by
  rw [show 86 + j = 13 + (72 + j + 1) by omega, sr_from, List.getElem?_cons_succ, List.getElem?_append_right (by rw [row_len]; omega), row_len, List.getElem?_append_right (by rw [row_len]; omega), row_len]
  congr 1
  omega
theorem sr_map : (srL k ha n hc must ahd mb oa on oc)[86]? = some (.map (some mb)) := sr_end 0
theorem sr_ord : (srL k ha n hc must ahd mb oa on oc)[87]? = some (.slice oa on oc) := sr_end 1
theorem sr_put_ord (a : Option Addr) (m c : Nat) : (srL k ha n hc must ahd mb oa on oc).set 87 (.slice a m c) = srL k ha n hc must ahd mb a m c := by
  unfold srL
  rw [List.set_append_right _ _ (by rw [vT_len]; omega), vT_len, show 87 - 13 = (73 : Nat) + 1 from rfl, List.set_cons_succ, List.set_append_right _ _ (by rw [row_len]; omega), row_len, List.set_append_right _ _ (by rw [row_len]; omega), row_len]
  rfl
theorem row_put {m : Nat} {f : Nat → Bool} {j : Nat} (v : Bool) : (boolRow m f).toList.set j (.bool v) = (boolRow m fun b => if b = j then v else f b).toList := by
  have := boolRow_set (n := m) (f := f) (j := j) v
  rw [← this, Array.toList_setIfInBounds]
theorem sr_put_ahd {j : Nat} (h : j < 64) (v : Bool) : (srL k ha n hc must ahd mb oa on oc).set (22 + j) (.bool v) = srL k ha n hc must (fun b => if b = j then v else ahd b) mb oa on oc := by
  unfold srL
  rw [List.set_append_right _ _ (by rw [vT_len]; omega), vT_len, show 22 + j - 13 = (8 + j) + 1 by omega, List.set_cons_succ, List.set_append_right _ _ (by rw [row_len]; omega), row_len, List.set_append_left _ _ (by rw [row_len]; omega), show 8 + j - 8 = j by omega, row_put]
theorem sr_cell {w : World} {S : Nat} (h : w.heap[S]? = some (oSr k ha n hc must ahd mb oa on oc)) {j : Nat} {v : Value} (hj : (srL k ha n hc must ahd mb oa on oc)[j]? = some v) : w.cell? ⟨S, j, none⟩ = some v := cell_lc h (by rw [List.getElem?_toArray]; exact hj)
theorem sr_rth {w : World} {S : Nat} (h : w.heap[S]? = some (oSr k ha n hc must ahd mb oa on oc)) : w.rangeAt S 0 (vT k).toList := fun j v hj => by
  have hl : j < 13 := (List.getElem?_eq_some_iff.mp hj).1
  rw [Nat.zero_add]
  exact sr_cell h ((sr_th hl).trans hj)
abbrev b8 (f : Nat → Bool) : List Value := [.bool (f 0), .bool (f 1), .bool (f 2), .bool (f 3), .bool (f 4), .bool (f 5), .bool (f 6), .bool (f 7)]
theorem b8_row (f : Nat → Bool) : (boolRow 8 f) = (b8 f).toArray := rfl
theorem sr_rmust {w : World} {S : Nat} (h : w.heap[S]? = some (oSr k ha n hc must ahd mb oa on oc)) : w.rangeAt S 14 (b8 must) := fun j v hj => by
  have hl : j < 8 := (List.getElem?_eq_some_iff.mp hj).1
  refine sr_cell h ((sr_must hl).trans ?_)
  have e : b8 must = (boolRow 8 must).toList := rfl
  rw [e, row_get hl] at hj
  exact hj
theorem sr_rahd {w : World} {S : Nat} (h : w.heap[S]? = some (oSr k ha n hc must ahd mb oa on oc)) {i : Nat} (hi : i < 8) : w.rangeAt S (22 + 8 * i) (b8 fun j => ahd (8 * i + j)) := fun j v hj => by
  have hl : j < 8 := (List.getElem?_eq_some_iff.mp hj).1
  rw [Nat.add_assoc]
  refine sr_cell h ((sr_ahd (by omega)).trans ?_)
  have e : (b8 fun j => ahd (8 * i + j)) = (boolRow 8 fun j => ahd (8 * i + j)).toList := rfl
  rw [e, row_get hl] at hj
  exact hj
theorem sr_store {w : World} {S : Nat} (h : w.heap[S]? = some (oSr k ha n hc must ahd mb oa on oc)) (a : Option Addr) (m c : Nat) : (w.setCell ⟨S, 87, none⟩ (.slice a m c)).heap[S]? = some (oSr k ha n hc must ahd mb a m c) := by
  rw [heap_setCell_same w S 87 _ _ _ h]
  show some (Obj.cells ((srL k ha n hc must ahd mb oa on oc).toArray.setIfInBounds 87 _) TS (0, 0)) = _
  rw [List.setIfInBounds_toArray, sr_put_ord]
theorem sr_storeA {w : World} {S : Nat} (h : w.heap[S]? = some (oSr k ha n hc must ahd mb oa on oc)) {j : Nat} (hj : j < 64) (v : Bool) : (w.setCell ⟨S, 22 + j, none⟩ (.bool v)).heap[S]? = some (oSr k ha n hc must (fun b => if b = j then v else ahd b) mb oa on oc) := by
  rw [heap_setCell_same w S (22 + j) _ _ _ h]
  show some (Obj.cells ((srL k ha n hc must ahd mb oa on oc).toArray.setIfInBounds (22 + j) _) TS (0, 0)) = _
  rw [List.setIfInBounds_toArray, sr_put_ahd hj]
end
/-- The key of what was tried. -/
abbrev kA (f : Nat → Bool) (c : List Int) : Array Value := #[.bool (f 0), .bool (f 1), .bool (f 2), .bool (f 3), .bool (f 4), .bool (f 5), .bool (f 6), .bool (f 7), .int .i64 (c.getD 0 0), .int .i64 (c.getD 1 0), .int .i64 (c.getD 2 0), .int .i64 (c.getD 3 0), .int .i64 (c.getD 4 0), .int .i64 (c.getD 5 0), .int .i64 (c.getD 6 0), .int .i64 (c.getD 7 0), .int .i64 (c.length : Int)]
theorem kA_inj {f g : Nat → Bool} {c d : List Int} (hc : c.length ≤ 8) (hd : d.length ≤ 8) (h : kA f c = kA g d) : (∀ j, j < 8 → f j = g j) ∧ c = d := by
  simp only [Array.mk.injEq, List.cons.injEq, Value.bool.injEq, Value.int.injEq, true_and, and_true] at h
  obtain ⟨f0, f1, f2, f3, f4, f5, f6, f7, c0, c1, c2, c3, c4, c5, c6, c7, cl⟩ := h
  refine ⟨fun j hj => ?_, ?_⟩
  · have : j = 0 ∨ j = 1 ∨ j = 2 ∨ j = 3 ∨ j = 4 ∨ j = 5 ∨ j = 6 ∨ j = 7 := by omega
    rcases this with rfl | rfl | rfl | rfl | rfl | rfl | rfl | rfl <;> assumption
  · have hl : c.length = d.length := by omega
    refine List.ext_getElem hl fun i h1 h2 => ?_
    have e : ∀ i, i < 8 → c.getD i 0 = d.getD i 0 := fun j hj => by
      have : j = 0 ∨ j = 1 ∨ j = 2 ∨ j = 3 ∨ j = 4 ∨ j = 5 ∨ j = 6 ∨ j = 7 := by omega
      rcases this with rfl | rfl | rfl | rfl | rfl | rfl | rfl | rfl <;> assumption
    have := e i (by omega)
    rw [List.getD_eq_getElem?_getD, List.getD_eq_getElem?_getD, List.getElem?_eq_getElem h1, List.getElem?_eq_getElem h2] at this
    exact this
theorem lawT : Keyed Try.prog 123 := Keyed.of_law (deep_law_laid (by kernel_rfl) (m := 5) (by omega) (of_decide_eq_true (by kernel_rfl)) (by kernel_rfl) (by rw [Try.underlying123]))
theorem wf_ofT {z : Int} (h : I64 z) : (Lit.int .i64 z).wf = true := by
  simp [Lit.wf, IntKind.min, IntKind.max, IntKind.bits, IntKind.signed]
  exact h
theorem getD_i64 {c : List Int} (h : ∀ z ∈ c, I64 z) (i : Nat) : I64 (c.getD i 0) := by
  rw [List.getD_eq_getElem?_getD]
  cases e : c[i]? with
  | none => show I64 0; unfold I64; omega
  | some z => exact h z (List.mem_of_getElem? e)
theorem keyT_lit (b0 b1 b2 b3 b4 b5 b6 b7 : Bool) (c0 c1 c2 c3 c4 c5 c6 c7 cl : Int) (g0 : (Lit.int .i64 c0).wf = true) (g1 : (Lit.int .i64 c1).wf = true) (g2 : (Lit.int .i64 c2).wf = true) (g3 : (Lit.int .i64 c3).wf = true) (g4 : (Lit.int .i64 c4).wf = true) (g5 : (Lit.int .i64 c5).wf = true) (g6 : (Lit.int .i64 c6).wf = true) (g7 : (Lit.int .i64 c7).wf = true) (hl : (Lit.int .i64 cl).wf = true) : ∃ l, keyOf Try.prog 123 (.agg #[.bool b0, .bool b1, .bool b2, .bool b3, .bool b4, .bool b5, .bool b6, .bool b7, .int .i64 c0, .int .i64 c1, .int .i64 c2, .int .i64 c3, .int .i64 c4, .int .i64 c5, .int .i64 c6, .int .i64 c7, .int .i64 cl]) = some l := by
  have h1 : Try.prog.keyTypeAt (Try.prog.types.size + 1) 123 = true := by kernel_rfl
  have hq : Try.prog.cellsOf 123 = 17 := by kernel_rfl
  have hq2 : Try.prog.cellsOf 101 = 8 := by kernel_rfl
  have hq3 : Try.prog.cellsOf 59 = 9 := by kernel_rfl
  have hq4 : Try.prog.cellsOf 57 = 8 := by kernel_rfl
  have hq5 : Try.prog.cellsOf 2 = 1 := by kernel_rfl
  have hq6 : Try.prog.cellsOf 4 = 1 := by kernel_rfl
  have hq7 : Try.prog.cellsOf 3 = 1 := by kernel_rfl
  have hf : (Value.agg #[.bool b0, .bool b1, .bool b2, .bool b3, .bool b4, .bool b5, .bool b6, .bool b7, .int .i64 c0, .int .i64 c1, .int .i64 c2, .int .i64 c3, .int .i64 c4, .int .i64 c5, .int .i64 c6, .int .i64 c7, .int .i64 cl]).formed Try.prog 123 = true := by simp [Value.formed, Try.underlying123, hq]
  have ht : DataW.Trod (H := Unit) (fun _ => ()) Try.prog default 0 (fun _ => true) true 123 (.agg #[.bool b0, .bool b1, .bool b2, .bool b3, .bool b4, .bool b5, .bool b6, .bool b7, .int .i64 c0, .int .i64 c1, .int .i64 c2, .int .i64 c3, .int .i64 c4, .int .i64 c5, .int .i64 c6, .int .i64 c7, .int .i64 cl]) (.agg [.agg [.lit (.bool b0), .lit (.bool b1), .lit (.bool b2), .lit (.bool b3), .lit (.bool b4), .lit (.bool b5), .lit (.bool b6), .lit (.bool b7)], .agg [.agg [.lit (.int .i64 c0), .lit (.int .i64 c1), .lit (.int .i64 c2), .lit (.int .i64 c3), .lit (.int .i64 c4), .lit (.int .i64 c5), .lit (.int .i64 c6), .lit (.int .i64 c7)], .lit (.int .i64 cl)]]) [] :=
    ⟨4, by simp [DataW.trod, Value.cells, Try.underlying123, Try.underlying101, Try.underlying59, Try.underlying57, Try.underlying2, Try.underlying4, Try.underlying3, hq, hq2, hq3, hq4, hq5, hq6, hq7, g0, g1, g2, g3, g4, g5, g6, g7, hl, List.range_succ]⟩
  exact ⟨_, (keyOf_asKey h1 (by rw [Try.underlying123]) hf ht).1⟩
theorem keyT_ex (f : Nat → Bool) (c : List Int) (hc : c.length ≤ 8) (h : ∀ z ∈ c, I64 z) : ∃ l, keyOf Try.prog 123 (.agg (kA f c)) = some l :=
  have g := fun i => wf_ofT (getD_i64 h i)
  keyT_lit _ _ _ _ _ _ _ _ _ _ _ _ _ _ _ _ _ (g 0) (g 1) (g 2) (g 3) (g 4) (g 5) (g 6) (g 7) (wf_ofT (by unfold I64; omega))
/-- The set of what was tried. -/
def MapT (w : World) (b n : Nat) (T : List ((Nat → Bool) × List Int)) : Prop :=
  ∃ D : DataW Unit, w.ownsMap Try.prog 123 unitElem b n D ∧ IsMap D ∧ ∀ f c l, keyOf Try.prog 123 (.agg (kA f c)) = some l → (Maps.has D l = true ↔ ∃ q ∈ T, kA q.1 q.2 = kA f c)
theorem mapT_new (w : World) : MapT (w.alloc (.map #[] 0)) w.heap.size 0 [] :=
  ⟨.map [], World.ownsMap_made _ _ _ _, Go.Maps.isMap_empty, fun f c l _ => ⟨fun q => absurd q (by simp [Go.Maps.has]), fun q => by obtain ⟨q, hq, _⟩ := q; simp at hq⟩⟩
theorem MapT.on {w w' : World} {b n : Nat} {T : List ((Nat → Bool) × List Int)} (h : MapT w b n T) (hb : w'.heap[b]? = w.heap[b]?) : MapT w' b n T := by
  obtain ⟨D, ⟨es, c, h1, h2⟩, h3⟩ := h
  exact ⟨D, ⟨es, c, hb.trans h1, h2⟩, h3⟩
theorem MapT.lt {w : World} {b n : Nat} {T : List ((Nat → Bool) × List Int)} (h : MapT w b n T) : b < w.heap.size := by
  obtain ⟨D, ⟨es, c, h1, h2⟩, h3⟩ := h
  exact (Array.getElem?_eq_some_iff.mp h1).1
theorem zeroU (w : World) : (zeroValue 124).run Try.prog w = .ok (.agg #[]) w := by kernel_rfl
theorem MapT.look {w : World} {b n : Nat} {T : List ((Nat → Bool) × List Int)} (h : MapT w b n T) (f : Nat → Bool) (c : List Int) (hc : c.length ≤ 8) (hi : ∀ z ∈ c, I64 z) : ∃ r : Bool, (Instr.lookup 103 (.map (some b)) (.agg (kA f c)) true).run Try.prog w = .ok (.tuple #[.agg #[], .bool r]) w ∧ (r = true ↔ ∃ q ∈ T, kA q.1 q.2 = kA f c) := by
  obtain ⟨D, h1, h2, h3⟩ := h
  obtain ⟨l, hl⟩ := keyT_ex f c hc hi
  obtain ⟨v, ps, hrun, hv⟩ := h1.look_ok lawT Try.underlying103 (zeroU w) unitElem_mk hl
  obtain ⟨rfl, _⟩ := unitElem_inv hv
  exact ⟨_, hrun, h3 f c l hl⟩
theorem MapT.put {w : World} {b n : Nat} {T : List ((Nat → Bool) × List Int)} (h : MapT w b n T) (hn : n < maxLen) (f : Nat → Bool) (c : List Int) (hc : c.length ≤ 8) (hi : ∀ z ∈ c, I64 z) :
    ∃ w', (Instr.mapUpdate 103 (.map (some b)) (.agg (kA f c)) (.agg #[])).run Try.prog w = .ok () w' ∧ MapT w' b (n + 1) ((f, c) :: T) ∧ w.grownBy w' (some b) := by
  obtain ⟨D, h1, h2, h3⟩ := h
  obtain ⟨l, hl⟩ := keyT_ex f c hc hi
  obtain ⟨w', hr, ho, hg⟩ := h1.update lawT Try.underlying103 hn hl unitElem_mk
  refine ⟨w', hr, ⟨_, ho, h2.put _ _, fun g d l2 hl2 => ?_⟩, hg⟩
  by_cases e : kA f c = kA g d
  · rw [← e, hl] at hl2
    cases hl2
    rw [Go.Maps.has_put_same h2 (lawT.key hl)]
    exact ⟨fun _ => ⟨_, List.mem_cons_self, e⟩, fun _ => rfl⟩
  · have hne : l2 ≠ l := fun q => by
      subst q
      have := lawT.inj hl hl2
      simp only [Value.agg.injEq] at this
      exact e this
    rw [Go.Maps.has_put_other hne, h3 g d l2 hl2]
    constructor
    · rintro ⟨q, hq, r⟩
      exact ⟨q, List.mem_cons_of_mem _ hq, r⟩
    · rintro ⟨q, hq, r⟩
      rcases List.mem_cons.mp hq with rfl | hq
      · exact absurd r e
      · exact ⟨q, hq, r⟩
end Go.Proofs.Ytklpifammbnldaa.pg
/- How a search stands while it goes on. -/
namespace Go.Proofs.Ytklpifammbnldaa.pg
open Go.ChangeShapes Go.WideShapes Go.ChangeAt Go.RowKit
set_option linter.unusedVariables false
set_option linter.unusedSimpArgs false
set_option maxRecDepth 100000
/-- What a thing may hold when n operations are done. -/
structure InvC (k : Int) (c : List Int) (n : Nat) : Prop where
  one : k = 1 ∨ k = 2 → c.length = 1
  lst : k = 3 ∨ k = 4 → c.length ≤ n
  i : ∀ z ∈ c, I64 z
theorem wrap64_I (z : Int) : I64 (wrap64 z) := by
  unfold I64 wrap64
  omega
theorem inv_first {k : Int} : InvC k (firstC k) 0 := by
  unfold firstC
  by_cases e : k = 1 ∨ k = 2
  · rw [if_pos e]
    exact ⟨fun _ => rfl, fun q => by omega, fun z hz => by simp at hz; subst hz; unfold I64; omega⟩
  · rw [if_neg e]
    exact ⟨fun q => absurd q e, fun _ => Nat.le_refl _, fun z hz => by simp at hz⟩
theorem inv_next {k : Int} {c : List Int} {n : Nat} {x : Cl} (h : InvC k c n) (hd : doesB k x.d = true) (hi : I64 x.inn) : InvC k (nxtC k c x) (n + 1) := by
  have h1 := h.one
  have h2 := h.lst
  have h3 := h.i
  unfold nxtC actC
  rcases does_cases hd with ⟨rfl, e⟩ | ⟨rfl, e⟩ | ⟨rfl, e⟩ | ⟨rfl, e⟩ | ⟨rfl, e⟩ | ⟨rfl, e⟩ | ⟨rfl, e⟩ | ⟨rfl, e⟩ <;> rw [e]
  · exact ⟨h1, fun q => by have := h2 q; show c.length ≤ _; omega, h3⟩
  · exact ⟨fun _ => rfl, fun q => by omega, fun z hz => by simp at hz; rw [hz]; exact hi⟩
  · exact ⟨h1, fun q => by have := h2 q; show c.length ≤ _; omega, h3⟩
  · exact ⟨fun _ => rfl, fun q => by omega, fun z hz => by simp at hz; rw [hz]; exact wrap64_I _⟩
  · exact ⟨fun q => by omega, fun q => by have := h2 q; simp; omega, fun z hz => (by simp at hz; exact hz.elim (h3 z) fun q => q ▸ hi)⟩
  · simp only [show ¬ (5 : Int) = 1 by decide, show ¬ (5 : Int) = 2 by decide, show ¬ (5 : Int) = 3 by decide, show ¬ (5 : Int) = 4 by decide, if_false, if_true]
    split
    · exact ⟨h1, fun q => by have := h2 q; show c.length ≤ _; omega, h3⟩
    · exact ⟨fun q => by omega, fun q => by have := h2 q; simp; omega, fun z hz => h3 z (List.mem_of_mem_tail hz)⟩
  · exact ⟨fun q => by omega, fun q => by have := h2 q; simp; omega, fun z hz => (by simp at hz; exact hz.elim (h3 z) fun q => q ▸ hi)⟩
  · simp only [show ¬ (5 : Int) = 1 by decide, show ¬ (5 : Int) = 2 by decide, show ¬ (5 : Int) = 3 by decide, show ¬ (5 : Int) = 4 by decide, show ¬ (4 : Int) = 3 by decide, if_false]
    split
    · exact ⟨h1, fun q => by have := h2 q; show c.length ≤ _; omega, h3⟩
    · exact ⟨fun q => by omega, fun q => by have := h2 q; simp; omega, fun z hz => h3 z (List.dropLast_subset _ hz)⟩
theorem inv_le {k : Int} {c : List Int} {n : Nat} (h : InvC k c n) (hk : 1 ≤ k ∧ k ≤ 4) (hn : n ≤ 8) : c.length ≤ 8 := by
  rcases (show (k = 1 ∨ k = 2) ∨ (k = 3 ∨ k = 4) by omega) with q | q
  · have := h.one q; omega
  · have := h.lst q; omega
theorem inv_ok {k d : Int} {c : List Int} {n : Nat} (h : InvC k c n) (hk : 1 ≤ k ∧ k ≤ 4) (hn : n < 8) (hd : doesB k d = true) : OkC k d c :=
  ⟨h.one, inv_le h hk (by omega), fun q => by
    subst q
    rcases does_cases hd with ⟨rfl, e⟩ | ⟨rfl, e⟩ | ⟨rfl, e⟩ | ⟨rfl, e⟩ | ⟨rfl, e⟩ | ⟨rfl, e⟩ | ⟨rfl, e⟩ | ⟨rfl, e⟩ <;> first | (have := h.lst (.inl rfl); omega) | (have := h.lst (.inr rfl); omega) | omega⟩
/-- What is left of a list that is cut back. -/
theorem own_cutL {w : World} {lo e : Nat} {a : Option Addr} {cap : Nat} {L : List (List Value)} (h : OwnL w lo e 1 a cap L) (hk : ∀ row ∈ L, row.length = 1) (n : Nat) (hn : n ≤ L.length) (ha : a ≠ none) : OwnL w lo e 1 a cap (L.take n) := by
  have hfl : ∀ l : List (List Value), (∀ row ∈ l, row.length = 1) → l.flatten.length = l.length := by
    intro l
    induction l with
    | nil => intro _; rfl
    | cons x t ih =>
      intro q
      rw [List.flatten_cons, List.length_append, q x (by simp), ih fun r hr => q r (by simp [hr]), List.length_cons]
      omega
  have hft : ∀ (l : List (List Value)) (m : Nat), (∀ row ∈ l, row.length = 1) → (l.take m).flatten = l.flatten.take m := by
    intro l
    induction l with
    | nil => intro m _; simp
    | cons x t ih =>
      intro m q
      cases m with
      | zero => simp
      | succ m =>
        have h1 := q x (by simp)
        rw [List.take_succ_cons, List.flatten_cons, List.flatten_cons, ih m fun r hr => q r (by simp [hr]), List.take_append, h1]
        have : x.take (m + 1) = x := List.take_of_length_le (by omega)
        rw [this]
        simp
  have e1 : (L.take n).length = n := by rw [List.length_take]; omega
  refine ⟨by rw [hfl _ fun r hr => hk r (List.mem_of_mem_take hr)]; omega, ?_⟩
  rcases h.2 with ⟨h1, h2⟩ | ⟨g, cap', cur, h1, hb, hg, h2, h3, h4, h5⟩
  · simp only [Value.slice.injEq] at h1
    exact absurd h1.1 ha
  · simp only [Value.slice.injEq] at h1
    obtain ⟨rfl, _, rfl⟩ := h1
    refine .inr ⟨g, cap, cur, by rw [e1], hb, hg, by rw [e1]; omega, h3, h4, ?_⟩
    rw [e1, hft _ _ hk, ← h5, Nat.mul_one, Nat.mul_one, List.take_take, Nat.min_eq_left hn]
section
variable {w0 W X X' : World} {k : Int} {h : List Cl} {ha : Option Addr} {hc : Nat} {rel : Cl → Cl → Bool} {S mb : Nat} {T : List ((Nat → Bool) × List Int)} {N : Nat} {o : List Int} {oa oa0 oa' : Option Addr} {oc oc' : Nat} {f : Nat → Bool} {c : List Int}
/-- How a search stands: itself, what was tried, its order. -/
structure GS (w0 X : World) (k : Int) (h : List Cl) (ha : Option Addr) (hc : Nat) (rel : Cl → Cl → Bool) (S mb : Nat) (T : List ((Nat → Bool) × List Int)) (N : Nat) (o : List Int) (oa : Option Addr) (oc : Nat) : Prop where
  s : X.heap[S]? = some (oSr k ha h.length hc (lastK h h.length) (fun b => ahR rel h (b / 8) (b % 8)) mb oa o.length oc)
  m : MapT X mb N T
  o : OwnL X w0.heap.size 3 1 oa oc (o.map chCells)
  b : Below w0.heap.size w0 X
  d1 : w0.heap.size ≤ S
  d2 : w0.heap.size ≤ mb
  n1 : S ≠ mb
  n2 : S ∉ blk oa
  n3 : mb ∉ blk oa
  tl : ∀ q ∈ T, q.2.length ≤ 8
theorem GS.lt (g : GS w0 X k h ha hc rel S mb T N o oa oc) : S < X.heap.size ∧ mb < X.heap.size := ⟨(Array.getElem?_eq_some_iff.mp g.s).1, g.m.lt⟩
theorem GS.obl (g : GS w0 X k h ha hc rel S mb T N o oa oc) : ∀ b ∈ blk oa, w0.heap.size ≤ b ∧ b < X.heap.size := blk_lt g.o
theorem GS.below (g : GS w0 X k h ha hc rel S mb T N o oa oc) (hb : Below X.heap.size X X') : GS w0 X' k h ha hc rel S mb T N o oa oc :=
  ⟨blk_on g.s hb, g.m.on (hb.block _ g.m.lt), own_keep g.o fun b hbb => hb.block b (blk_lt g.o b hbb).2, bthen g.b hb, g.d1, g.d2, g.n1, g.n2, g.n3, g.tl⟩
/-- What may have changed: the search, what was tried, its order. -/
structure Fr (W X : World) (S mb : Nat) (oa oa' : Option Addr) : Prop where
  sz : W.heap.size ≤ X.heap.size
  k : ∀ b, b < W.heap.size → b ≠ S → b ≠ mb → b ∉ blk oa → X.heap[b]? = W.heap[b]?
  o : ∀ b ∈ blk oa', b ∈ blk oa ∨ W.heap.size ≤ b
theorem Fr.refl : Fr W W S mb oa oa := ⟨Nat.le_refl _, fun _ _ _ _ _ => rfl, fun b hb => .inl hb⟩
theorem Fr.below (g : Fr W X S mb oa0 oa) (hb : Below X.heap.size X X') : Fr W X' S mb oa0 oa :=
  ⟨Nat.le_trans g.sz hb.size, fun b h1 h2 h3 h4 => (hb.block b (by have := g.sz; omega)).trans (g.k b h1 h2 h3 h4), g.o⟩
theorem Fr.trans (g : Fr W X S mb oa0 oa) (g' : Fr X X' S mb oa oa') : Fr W X' S mb oa0 oa' :=
  ⟨Nat.le_trans g.sz g'.sz, fun b h1 h2 h3 h4 => (g'.k b (by have := g.sz; omega) h2 h3 fun q => by
    rcases g.o b q with q | q
    · exact h4 q
    · omega).trans (g.k b h1 h2 h3 h4), fun b hb => by
    rcases g'.o b hb with q | q
    · exact g.o b q
    · exact .inr (by have := g.sz; omega)⟩
/-- How a call of goOn stands. -/
structure GoS (w0 W X : World) (k : Int) (h : List Cl) (ha : Option Addr) (hc : Nat) (rel : Cl → Cl → Bool) (S mb : Nat) (T : List ((Nat → Bool) × List Int)) (N : Nat) (o : List Int) (oa0 oa : Option Addr) (oc : Nat) (f : Nat → Bool) (c : List Int) : Prop where
  g : GS w0 X k h ha hc rel S mb T N o oa oc
  fr : Fr W X S mb oa0 oa
  d : X.heap[W.heap.size]? = some (oPl f)
  c : X.heap[W.heap.size + 1]? = some (.cells (vC c) TC)
  l : ∀ b ∈ blk oa, b ≠ W.heap.size ∧ b ≠ W.heap.size + 1
  ls : S < W.heap.size
  lm : mb < W.heap.size
theorem GoS.start (g : GS w0 W k h ha hc rel S mb T N o oa oc) (f : Nat → Bool) (c : List Int) : GoS w0 W ((W.alloc (oPl f)).alloc (.cells (vC c) TC)) k h ha hc rel S mb T N o oa oa oc f c := by
  have hb : Below W.heap.size W ((W.alloc (oPl f)).alloc (.cells (vC c) TC)) := bthen (boxed _ _) (boxed _ _)
  have n2 := heap_alloc_new (W.alloc (oPl f)) (.cells (vC c) TC)
  rw [World.size_alloc] at n2
  refine ⟨g.below hb, Fr.refl.below hb, blk_on (heap_alloc_new _ _) (boxed _ _), n2, fun b hbb => ?_, g.lt.1, g.lt.2⟩
  have := g.obl b hbb
  omega
theorem GoS.sz (g : GoS w0 W X k h ha hc rel S mb T N o oa0 oa oc f c) : W.heap.size + 1 < X.heap.size := (Array.getElem?_eq_some_iff.mp g.c).1
theorem GoS.below (g : GoS w0 W X k h ha hc rel S mb T N o oa0 oa oc f c) (hb : Below X.heap.size X X') : GoS w0 W X' k h ha hc rel S mb T N o oa0 oa oc f c :=
  ⟨g.g.below hb, g.fr.below hb, blk_on g.d hb, blk_on g.c hb, g.l, g.ls, g.lm⟩
theorem GoS.tried (g : GoS w0 W X k h ha hc rel S mb T N o oa0 oa oc f c) {T' : List ((Nat → Bool) × List Int)} {N' : Nat} (hm : MapT X' mb N' T') (hg : X.grownBy X' (some mb)) (tl : ∀ q ∈ T', q.2.length ≤ 8) : GoS w0 W X' k h ha hc rel S mb T' N' o oa0 oa oc f c := by
  have hk : ∀ b, b < X.heap.size → b ≠ mb → X'.heap[b]? = X.heap[b]? := fun b h1 h2 => hg.block b h1 (fun q => h2 (Option.some.inj q))
  have hlt := g.g.lt
  have hsz := g.sz
  have hz := hg.size
  have hb := g.g.b
  exact ⟨⟨(hk S hlt.1 g.g.n1).trans g.g.s, hm, own_keep g.g.o fun b hb => hk b (g.g.obl b hb).2 fun q => g.g.n3 (q ▸ hb), ⟨hg.os.trans hb.os, hg.tape.trans hb.tape, hg.output.trans hb.output, Nat.le_trans hb.size hz, fun b hbb => (hk b (by have := hb.size; omega) (by have := g.g.d2; omega)).trans (hb.block b hbb)⟩, g.g.d1, g.g.d2, g.g.n1, g.g.n2, g.g.n3, tl⟩, ⟨Nat.le_trans g.fr.sz hz, fun b h1 h2 h3 h4 => (hk b (by have := g.fr.sz; omega) h3).trans (g.fr.k b h1 h2 h3 h4), g.fr.o⟩, (hk _ (by omega) (by have := g.lm; omega)).trans g.d, (hk _ (by omega) (by have := g.lm; omega)).trans g.c, g.l, g.ls, g.lm⟩
/-- A call behind which it stands so again. -/
theorem GoS.call (g : GoS w0 W X k h ha hc rel S mb T N o oa0 oa oc f c) {T' : List ((Nat → Bool) × List Int)} {N' : Nat} {o' : List Int} (hg : GS w0 X' k h ha hc rel S mb T' N' o' oa' oc') (hf : Fr X X' S mb oa oa') : GoS w0 W X' k h ha hc rel S mb T' N' o' oa0 oa' oc' f c := by
  have hsz := g.sz
  have hl := g.l
  exact ⟨hg, g.fr.trans hf, (hf.k _ (by omega) (by have := g.ls; omega) (by have := g.lm; omega) fun q => (hl _ q).1 rfl).trans g.d, (hf.k _ (by omega) (by have := g.ls; omega) (by have := g.lm; omega) fun q => (hl _ q).2 rfl).trans g.c, fun b hb => by
    rcases hf.o b hb with q | q
    · exact hl b q
    · omega, g.ls, g.lm⟩
/-- The order lies elsewhere: stored into the search. -/
theorem GS.ord (g : GS w0 X k h ha hc rel S mb T N o oa oc) {Y : World} {o' : List Int} (ho : OwnL Y w0.heap.size 3 1 oa' oc' (o'.map chCells)) (hb : Below w0.heap.size X Y) (hsz : X.heap.size ≤ Y.heap.size) (hkp : ∀ b, b < X.heap.size → b ∉ blk oa → Y.heap[b]? = X.heap[b]?) (hbk : ∀ b ∈ blk oa', b ∈ blk oa ∨ X.heap.size ≤ b) : GS w0 (Y.setCell ⟨S, 87, none⟩ (.slice oa' o'.length oc')) k h ha hc rel S mb T N o' oa' oc' := by
  have hlt := g.lt
  have n2 : S ∉ blk oa' := fun q => by
    rcases hbk S q with q | q
    · exact g.n2 q
    · omega
  have n3 : mb ∉ blk oa' := fun q => by
    rcases hbk mb q with q | q
    · exact g.n3 q
    · omega
  have hs := (hkp S hlt.1 g.n2).trans g.s
  have hmb : (Y.setCell ⟨S, 87, none⟩ (.slice oa' o'.length oc')).heap[mb]? = X.heap[mb]? := (heap_setCell_other Y ⟨S, 87, none⟩ mb _ (fun q => g.n1 q.symm)).trans (hkp mb hlt.2 g.n3)
  exact ⟨sr_store hs _ _ _, g.m.on hmb, own_keep ho fun b hb => heap_setCell_other Y ⟨S, 87, none⟩ b _ (fun q => n2 (by rw [← (show b = S from q)]; exact hb)), (g.b.trans hb).setCell (p := ⟨S, 87, none⟩) g.d1 _, g.d1, g.d2, g.n1, n2, n3, g.tl⟩
theorem Fr.ord (hsz : W.heap.size ≤ X.heap.size) (hkp : ∀ b, b < W.heap.size → b ∉ blk oa → X.heap[b]? = W.heap[b]?) (hbk : ∀ b ∈ blk oa', b ∈ blk oa ∨ W.heap.size ≤ b) (v : Value) : Fr W (X.setCell ⟨S, 87, none⟩ v) S mb oa oa' :=
  ⟨by rw [World.size_setCell]; exact hsz, fun b h1 h2 h3 h4 => (heap_setCell_other X ⟨S, 87, none⟩ b _ h2).trans (hkp b h1 h4), hbk⟩
end
end Go.Proofs.Ytklpifammbnldaa.pg
/- The search goes on: the first order that fits, by trying. -/
namespace Go.Proofs.Ytklpifammbnldaa.pg
open Go.ChangeShapes Go.WideShapes Go.ChangeAt Go.RowKit
set_option linter.unusedVariables false
set_option linter.unusedSimpArgs false
set_option maxRecDepth 100000
attribute [local go_sem ↓] Go.wp_at_zero Go.wp_at_succ
theorem rng_blk {w : World} {B : Nat} {cs : Array Value} {t : TypeId} (h : w.heap[B]? = some (.cells cs t (0, 0))) : w.rangeAt B 0 cs.toList := fun j v hj => by
  rw [Nat.zero_add]
  exact cell_lc h (by simpa using hj)
theorem infoP8b : (Try.prog.info? 101).map (·.size) = some 8 := by kernel_rfl
theorem run_val2 {P : Program} {m : Sem Value} {v : Value} {w w' : World} (h : m.run P w = .ok v w') : (m.bind fun x => pure (.value x) : Sem Next).run P w = .ok (.value v) w' := by
  show (m >>= fun x => pure (Next.value x)).run P w = _
  rw [Sem.run_bind, h]
  rfl
theorem reg_val {P : Program} {ops : Array Oper} {Q : Exit → Act → World → Prop} {S : World → Prop} {fuel : Nat} {listed : Array Bool} {a : Act} {w : World} {i : Nat} {o : Oper} (ho : ops[i]? = some o) (hs : Region.noSelect ops = true) (hf : Region.free .any ops listed i = true) (hr : (Region.ready .any ops listed).contains i = true)
    (hQ : ∀ c v a w, Q (.panic c) (a.put o.dst v) w → Q (.panic c) a w) (hw : Region.wanted o (yielded ops a.tmps) = true) (v : Value) (hv : ∀ w, S w → (execOp a.eval o).run P w = .ok (.value v) w) (hSw : S w)
    (h : wpAnyH P .any ops Q S fuel (listed.setIfInBounds i true) (a.put o.dst v) w) : wpAnyH P .any ops Q S (fuel + 1) listed a w :=
  wpAnyH_take ho hs hf hr (fun c a w => hQ c _ a w) (.inl ⟨hw, fun w h => hv w h⟩) hSw h
/-- What goOn answers, and how it stands then. -/
def GoP (w0 W : World) (k : Int) (h : List Cl) (ha : Option Addr) (hc : Nat) (rel : Cl → Cl → Bool) (S mb : Nat) (T : List ((Nat → Bool) × List Int)) (N : Nat) (o : List Int) (oa : Option Addr) (f : Nat → Bool) (c : List Int) (m : Nat) (e : Ending) (W' : World) : Prop :=
  ∃ (T' : List ((Nat → Bool) × List Int)) (N' : Nat) (oa' : Option Addr) (oc' : Nat), e = .returned (.bool (fsB k rel h f c).isSome) ∧ GS w0 W' k h ha hc rel S mb T' N' (o ++ ((fsB k rel h f c).getD []).map fun (j : Nat) => (j : Int)) oa' oc' ∧ Fr W W' S mb oa oa' ∧ N' + 1 ≤ N + 9 ^ (m + 1) ∧ (fsB k rel h f c = none → vain k rel h T' (cntD f h.length) ∧ ∀ q ∈ T', q ∈ T ∨ cntD f h.length ≤ cntD q.1 h.length)
section
variable {w0 W : World} {k : Int} {h : List Cl} {ha : Option Addr} {hc : Nat} {rel : Cl → Cl → Bool} {S mb : Nat} {T : List ((Nat → Bool) × List Int)} {N : Nat} {o : List Int} {oa : Option Addr} {oc : Nat} {f : Nat → Bool} {c : List Int}
theorem pow9 (m : Nat) : 1 ≤ 9 ^ (m + 1) := Nat.one_le_pow _ _ (by decide)
set_option maxHeartbeats 4000000 in
theorem goOn_whole (m : Nat) (hn : h.length ≤ 8) (hwh : wholeB h f = true) (hg : GS w0 W k h ha hc rel S mb T N o oa oc) : Calls Try.prog 46 #[.pointer (some ⟨S, 0, none⟩), .agg (boolRow 8 f), .agg (vC c)] W (GoP w0 W k h ha hc rel S mb T N o oa f c m) := by
  have hG0 : Hid (GoS w0 W ((W.alloc (oPl f)).alloc (.cells (vC c) TC)) k h ha hc rel S mb T N o oa oa oc f c) := GoS.start hg f c
  have hw : hasB f (lastK h h.length) = true := (has_whole hn f).trans hwh
  go_enter Try.func46, Try.ntmps46
  go_upto_region 1 with fail
  obtain ⟨X, hX⟩ : ∃ X, (W.alloc (oPl f)).alloc (.cells (vC c) TC) = X := ⟨_, rfl⟩
  rw [hX] at hG0 ⊢
  have hG : Hid (GoS w0 W X k h ha hc rel S mb T N o oa oa oc f c) := hG0
  clear hX hG0
  have hS : Hid (Below X.heap.size X X.drew) := bey_drew X
  have hRd : Hid (∀ w', Below X.heap.size X w' → w'.rangeAt W.heap.size 0 (b8 f) ∧ w'.rangeAt S 14 (b8 (lastK h h.length))) := fun w' q => ⟨rng_blk (hG.out.below q).d, sr_rmust (hG.out.below q).g.s⟩
  refine wp_region_noPanic ?_
  refine wp_region_held_drew (S := fun w' => Below X.heap.size X w') (by kernel_rfl) hS.out (fun _ => ?_)
  refine reg_load (i := 0) rfl (by kernel_rfl) (by kernel_rfl) (by kernel_rfl) (fun _ _ _ _ h => h) rfl 101 _ rfl W.heap.size 0 rfl (b8 f) _ (fun w' q => (hRd.out w' q).1) Try.underlying101 rfl infoP8b hS.out ?_
  simp only [Act.put, List.getElem_toArray, List.getElem_cons_succ, List.getElem_cons_zero, List.setIfInBounds_toArray, List.set_cons_zero, List.set_cons_succ]
  refine reg_move (i := 1) rfl (by kernel_rfl) (by kernel_rfl) (by kernel_rfl) (fun _ _ _ _ h => h) rfl (.pointer (some ⟨S, 0, none⟩)) (fun _ => rfl) hS.out ?_
  simp only [Act.put, List.getElem_toArray, List.getElem_cons_succ, List.getElem_cons_zero, List.setIfInBounds_toArray, List.set_cons_zero, List.set_cons_succ]
  refine reg_move (i := 2) rfl (by kernel_rfl) (by kernel_rfl) (by kernel_rfl) (fun _ _ _ _ h => h) rfl (.pointer (some ⟨S, 0, none⟩)) (fun _ => rfl) hS.out ?_
  simp only [Act.put, List.getElem_toArray, List.getElem_cons_succ, List.getElem_cons_zero, List.setIfInBounds_toArray, List.set_cons_zero, List.set_cons_succ]
  refine reg_move (i := 3) rfl (by kernel_rfl) (by kernel_rfl) (by kernel_rfl) (fun _ _ _ _ h => h) rfl (.pointer (some ⟨S, 14, none⟩)) (fun _ => rfl) hS.out ?_
  simp only [Act.put, List.getElem_toArray, List.getElem_cons_succ, List.getElem_cons_zero, List.setIfInBounds_toArray, List.set_cons_zero, List.set_cons_succ]
  refine reg_load (i := 4) rfl (by kernel_rfl) (by kernel_rfl) (by kernel_rfl) (fun _ _ _ _ h => h) rfl 101 _ rfl S 14 rfl (b8 (lastK h h.length)) _ (fun w' q => (hRd.out w' q).2) Try.underlying101 rfl infoP8b hS.out ?_
  simp only [Act.put, List.getElem_toArray, List.getElem_cons_succ, List.getElem_cons_zero, List.setIfInBounds_toArray, List.set_cons_zero, List.set_cons_succ]
  refine reg_call2 (i := 5) (by kernel_rfl) rfl rfl 66 _ _ _ _ rfl (.agg (boolRow 8 f)) (.agg (boolRow 8 (lastK h h.length))) rfl rfl (cf_fn Try.func66 (by kernel_rfl) (by kernel_rfl) _ _) _ (has_any8 f (lastK h h.length) _) ?_
  rintro e1 X1 ⟨rfl, hb1⟩
  refine ⟨_, rfl, bthen hS.out hb1, fun _ => ?_⟩
  simp only [Act.put, List.getElem_toArray, List.getElem_cons_succ, List.getElem_cons_zero, List.setIfInBounds_toArray, List.set_cons_zero, List.set_cons_succ]
  rw [hw]
  refine wpAnyH_done (by kernel_rfl) (NoPanic.normal ?_) _
  have hG1 : Hid (GoS w0 W X1 k h ha hc rel S mb T N o oa oa oc f c) := hG.out.below (bthen hS.out hb1)
  clear hS hRd hb1 hG
  go_wp2
  go_ret
  have e : fsB k rel h f c = some [] := fsB_whole hwh c
  exact ⟨T, N, oa, oc, by rw [e]; rfl, by rw [e]; simpa using hG1.out.g, hG1.out.fr, by have := pow9 m; omega, fun q => by rw [e] at q; cases q⟩
end
end Go.Proofs.Ytklpifammbnldaa.pg
