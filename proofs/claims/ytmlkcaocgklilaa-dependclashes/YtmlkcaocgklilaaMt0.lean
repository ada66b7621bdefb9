/- Accesses as keys of a map: how an object is touched by a list of accesses. -/
import Derived.Test.YtmlkcaocgklilaaDp2
import Derived.Test.YtmlkcaocgklilaaReg
import Derived.Maps.OwnOps
import Derived.Maps.OwnSet
import Derived.DeepKeys4
import Derived.MapViews
namespace Go.Proofs.Ytmlkcaocgklilaa.pg
open Go.ChangeShapes Go.WideShapes Go.ChangeAt Go.RowKit
open Go.Maps (Keyed IsMap)
set_option linter.unusedVariables false
set_option linter.unusedSimpArgs false
set_option maxRecDepth 100000
/-- How an access touches its object. -/
def hw (x : Acc) : Int := if x.wr then 2 else 1
/-- How a list of accesses touches an object: 0 not at all, 1 read, 2 written. -/
def mark : List Acc → Int → Int → Int
  | [], _, _ => 0
  | x :: l, k, n => if x.kind = k ∧ x.num = n then max (mark l k n) (hw x) else mark l k n
theorem mark_snoc (l : List Acc) (x : Acc) (k n : Int) : mark (l ++ [x]) k n = if x.kind = k ∧ x.num = n then max (mark l k n) (hw x) else mark l k n := by
  induction l with
  | nil => simp [mark]
  | cons y l ih =>
    simp only [List.cons_append, mark]
    rw [ih]
    by_cases h : x.kind = k ∧ x.num = n
    · by_cases g : y.kind = k ∧ y.num = n
      · simp only [if_pos h, if_pos g]; omega
      · simp only [if_pos h, if_neg g]
    · simp only [if_neg h]
theorem mark_bd (l : List Acc) (k n : Int) : 0 ≤ mark l k n ∧ mark l k n ≤ 2 := by
  induction l with
  | nil => simp [mark]
  | cons y l ih =>
    simp only [mark]
    split
    · unfold hw; split <;> omega
    · exact ih
theorem mark_none (l : List Acc) (k n : Int) (h : ∀ x ∈ l, ¬ (x.kind = k ∧ x.num = n)) : mark l k n = 0 := by
  induction l with
  | nil => rfl
  | cons y l ih =>
    simp only [mark]
    rw [if_neg (h y (by simp)), ih fun x hx => h x (by simp [hx])]
theorem mark_some (l : List Acc) (x : Acc) (hx : x ∈ l) : hw x ≤ mark l x.kind x.num := by
  induction l with
  | nil => simp at hx
  | cons y l ih =>
    simp only [mark]
    rcases List.mem_cons.mp hx with rfl | h
    · rw [if_pos ⟨rfl, rfl⟩]; omega
    · have := ih h
      split <;> omega
theorem mark_two (l : List Acc) (k n : Int) (h : mark l k n = 2) : ∃ x ∈ l, (x.kind = k ∧ x.num = n) ∧ x.wr = true := by
  induction l with
  | nil => simp [mark] at h
  | cons y l ih =>
    simp only [mark] at h
    split at h
    · rename_i g
      by_cases w : y.wr = true
      · exact ⟨y, by simp, g, w⟩
      · have : hw y = 1 := by unfold hw; rw [if_neg w]
        rw [this] at h
        obtain ⟨x, hx, q⟩ := ih (by omega)
        exact ⟨x, by simp [hx], q⟩
    · obtain ⟨x, hx, q⟩ := ih h
      exact ⟨x, by simp [hx], q⟩
theorem mark_pos (l : List Acc) (k n : Int) (h : 0 < mark l k n) : ∃ x ∈ l, x.kind = k ∧ x.num = n := by
  apply Classical.byContradiction
  intro q
  rw [mark_none l k n fun x hx g => q ⟨x, hx, g⟩] at h
  omega
/-- Whether an access meets one of a list. -/
theorem mark_meets (l : List Acc) (y : Acc) : (0 < mark l y.kind y.num ∧ max (mark l y.kind y.num) (hw y) = 2) ↔ ∃ x ∈ l, meets x y = true := by
  constructor
  · rintro ⟨h1, h2⟩
    by_cases w : y.wr = true
    · obtain ⟨x, hx, a, b⟩ := mark_pos _ _ _ h1
      exact ⟨x, hx, by simp [meets, a, b, w]⟩
    · have : hw y = 1 := by unfold hw; rw [if_neg w]
      rw [this] at h2
      obtain ⟨x, hx, ⟨a, b⟩, c⟩ := mark_two l y.kind y.num (by omega)
      exact ⟨x, hx, by simp [meets, a, b, c]⟩
  · rintro ⟨x, hx, h⟩
    simp only [meets, Bool.and_eq_true, beq_iff_eq, Bool.or_eq_true] at h
    obtain ⟨⟨a, b⟩, c⟩ := h
    have h1 := mark_some l x hx
    rw [a, b] at h1
    have h2 := mark_bd l y.kind y.num
    have h3 : 1 ≤ hw x ∧ hw x ≤ 2 := by unfold hw; split <;> omega
    have h4 : 1 ≤ hw y ∧ hw y ≤ 2 := by unfold hw; split <;> omega
    refine ⟨by omega, ?_⟩
    rcases c with c | c
    · have : hw x = 2 := by unfold hw; rw [if_pos c]
      omega
    · have : hw y = 2 := by unfold hw; rw [if_pos c]
      omega
/-- The key of an object. -/
abbrev objV (k n : Int) : Value := .agg #[.int .i64 k, .int .i64 n, .bool false]
theorem law : Keyed Try.prog 44 := Keyed.of_law (deep_law_laid (by kernel_rfl) (m := 3) (by omega) (of_decide_eq_true (by kernel_rfl)) (by kernel_rfl) (by rw [Try.underlying44]))
theorem zero0 (w : World) : (zeroValue 3).run Try.prog w = .ok (.int .i64 0) w := by kernel_rfl
theorem wf_of {z : Int} (h : I64 z) : (Lit.int .i64 z).wf = true := by
  simp [Lit.wf, IntKind.min, IntKind.max, IntKind.bits, IntKind.signed]
  exact h
theorem key_ex (k n : Int) (hk : I64 k) (hn : I64 n) : ∃ l, keyOf Try.prog 44 (objV k n) = some l := by
  have h1 : Try.prog.keyTypeAt (Try.prog.types.size + 1) 44 = true := by kernel_rfl
  have hc : Try.prog.cellsOf 44 = 3 := by kernel_rfl
  have hc1 : Try.prog.cellsOf 3 = 1 := by kernel_rfl
  have hc2 : Try.prog.cellsOf 4 = 1 := by kernel_rfl
  have hf : (objV k n).formed Try.prog 44 = true := by simp [Value.formed, Try.underlying44, hc]
  have ht : DataW.Trod (H := Unit) (fun _ => ()) Try.prog default 0 (fun _ => true) true 44 (objV k n) (.agg [.lit (.int .i64 k), .lit (.int .i64 n), .lit (.bool false)]) [] :=
    ⟨2, by simp [DataW.trod, Value.cells, Try.underlying44, Try.underlying3, Try.underlying4, hc, hc1, hc2, wf_of hk, wf_of hn]⟩
  exact ⟨_, (keyOf_asKey h1 (by rw [Try.underlying44]) hf ht).1⟩
/-- A map that says how objects are touched. -/
def MapSt (w : World) (b n : Nat) (f : Int → Int → Int) : Prop :=
  ∃ D : DataW Unit, w.ownsMap Try.prog 44 (plainElem Try.prog 3) b n D ∧ IsMap D ∧ ∀ x y l, keyOf Try.prog 44 (objV x y) = some l → D.atKey l (.lit (.int .i64 0)) = .lit (.int .i64 (f x y))
theorem mapst_new (w : World) : MapSt (w.alloc (.map #[] 0)) w.heap.size 0 (fun _ _ => 0) :=
  ⟨.map [], World.ownsMap_made _ _ _ _, Go.Maps.isMap_empty, fun x y l _ => rfl⟩
theorem MapSt.kept {w w' : World} {b n : Nat} {f : Int → Int → Int} (h : MapSt w b n f) (hb : Below w.heap.size w w') : MapSt w' b n f := by
  obtain ⟨D, ⟨es, c, h1, h2⟩, h3⟩ := h
  exact ⟨D, ⟨es, c, (hb.block b (Array.getElem?_eq_some_iff.mp h1).1).trans h1, h2⟩, h3⟩
theorem MapSt.lt {w : World} {b n : Nat} {f : Int → Int → Int} (h : MapSt w b n f) : b < w.heap.size := by
  obtain ⟨D, ⟨es, c, h1, h2⟩, h3⟩ := h
  exact (Array.getElem?_eq_some_iff.mp h1).1
theorem MapSt.look {w : World} {b n : Nat} {f : Int → Int → Int} (h : MapSt w b n f) (x y : Int) (hx : I64 x) (hy : I64 y) : (Instr.lookup 57 (.map (some b)) (objV x y) false).run Try.prog w = .ok (.int .i64 (f x y)) w := by
  obtain ⟨D, h1, h2, h3⟩ := h
  obtain ⟨l, hl⟩ := key_ex x y hx hy
  obtain ⟨c, hc, hat, _⟩ := h1.lookup_int law Try.underlying57 Try.underlying3 (zero0 w) hl
  rw [h3 x y l hl] at hat
  simp only [DataW.lit.injEq, Lit.int.injEq, true_and] at hat
  rw [hc, hat]
theorem MapSt.put {w : World} {b n : Nat} {f : Int → Int → Int} (h : MapSt w b n f) (hn : n < maxLen) (x y v : Int) (hx : I64 x) (hy : I64 y) (hv : I64 v) :
    ∃ w', (Instr.mapUpdate 57 (.map (some b)) (objV x y) (.int .i64 v)).run Try.prog w = .ok () w' ∧ MapSt w' b (n + 1) (fun k m => if x = k ∧ y = m then v else f k m) ∧ w.grownBy w' (some b) := by
  obtain ⟨D, h1, h2, h3⟩ := h
  obtain ⟨l, hl⟩ := key_ex x y hx hy
  obtain ⟨w', hr, ho, hg⟩ := h1.update law Try.underlying57 hn hl (plainElem_int Try.underlying3 (wf_of hv))
  refine ⟨w', hr, ⟨_, ho, h2.put _ _, fun k m l2 hl2 => ?_⟩, hg⟩
  dsimp only
  by_cases e : x = k ∧ y = m
  · obtain ⟨rfl, rfl⟩ := e
    rw [hl] at hl2
    cases hl2
    rw [Go.Maps.atKey_put_same h2 (law.key hl), if_pos ⟨rfl, rfl⟩]
  · rw [if_neg e, Go.Maps.atKey_put_other, h3 k m l2 hl2]
    intro q
    subst q
    have := law.inj hl hl2
    simp at this
    exact e this
end Go.Proofs.Ytmlkcaocgklilaa.pg
