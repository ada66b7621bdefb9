/- OrderByClocks. -/
import Derived.Test.YtkhhkgfaakgdfaaM30
import Derived.Test.YtkhhkgfaakgdfaaM19
namespace Go.Proofs.Ytkhhkgfaakgdfaa.pg
open Go.ChangeShapes Go.WideShapes Go.ChangeAt Go.RowKit Go.Shelf
set_option linter.unusedVariables false
set_option linter.unusedSimpArgs false
set_option maxRecDepth 100000
attribute [local go_sem ↓] Go.wp_at_zero Go.wp_at_succ
theorem place_any (l : List Ev) (la : Option Addr) (lc : Nat) (i : Int) (hI : (l.length : Int) ≤ 9223372036854775807) (w : World) : Calls Try.prog 25 #[.slice la l.length lc, .int .i64 i] w fun e w' => e = .returned (.bool (decide (0 ≤ i ∧ i < l.length))) ∧ w' = w := by
  by_cases h0 : 0 ≤ i
  · by_cases h1 : i < l.length
    · have hh : Hid (decide (0 ≤ i ∧ i < l.length) = true) := by show _ = _; simp [h0, h1]
      rw [hh.out]
      go_enter Try.func25, Try.ntmps25
      go_wp2
      go_ret
      exact ⟨rfl, rfl⟩
    · have hh : Hid (decide (0 ≤ i ∧ i < l.length) = false) := by show _ = _; simp [h0, h1]
      have hd : decide (i < (l.length : Int)) = false := by simpa using h1
      rw [hh.out]
      clear h1
      go_enter Try.func25, Try.ntmps25
      go_wp2
      go_ret
      exact ⟨rfl, rfl⟩
  · have hh : Hid (decide (0 ≤ i ∧ i < l.length) = false) := by show _ = _; simp [h0]
    have hd : decide (0 ≤ i) = false := by simpa using h0
    rw [hh.out]
    clear h0
    go_enter Try.func25, Try.ntmps25
    go_wp2
    go_ret
    exact ⟨rfl, rfl⟩
/-- As far as a loop over a clock's numbers has come. -/
def ulTo (x y : Ck) (b : Bool) (k : Nat) : Bool := b && (List.range k).all fun q => decide (x.of q ≤ y.of q)
theorem ulTo_more (x y : Ck) (b : Bool) (k : Nat) : ulTo x y b (k + 1) = (ulTo x y b k && decide (x.of k ≤ y.of k)) := by
  unfold ulTo
  rw [List.range_succ, List.all_append]
  simp [Bool.and_assoc]
section
variable {l : List Ev} (hrt : ∀ x ∈ l, rightP x)
include hrt
theorem under_eq {i j : Nat} (hi : i < l.length) (hj : j < l.length) : ulTo ((rel (evf l) l.length).1.getD i zeroK) ((rel (evf l) l.length).1.getD j zeroK) (decide (i < j)) 6 = befK (rel (evf l) l.length).1 l i j := by
  obtain ⟨B, hB⟩ := tells_some (dpf l)
  have hl := rel_len (evf l) l.length
  have ei : (rel (evf l) l.length).1[i]? = some ((rel (evf l) l.length).1.getD i zeroK) := by rw [List.getD_eq_getElem?_getD, List.getElem?_eq_getElem (by omega)]; rfl
  have ej : (rel (evf l) l.length).1[j]? = some ((rel (evf l) l.length).1.getD j zeroK) := by rw [List.getD_eq_getElem?_getD, List.getElem?_eq_getElem (by omega)]; rfl
  have xi := rel_is hrt hB l.length (Nat.le_refl _) i _ ei
  have xj := rel_is hrt hB l.length (Nat.le_refl _) j _ ej
  unfold befK
  generalize (rel (evf l) l.length).1.getD i zeroK = x at *
  generalize (rel (evf l) l.length).1.getD j zeroK = y at *
  have hg : gof l i < 6 := gof_lt hrt hi
  unfold ulTo
  by_cases hij : i < j
  · simp only [hij, decide_true, Bool.true_and]
    rw [Bool.eq_iff_iff, List.all_eq_true, decide_eq_true_eq]
    have h1 := before_iff hB (ord_ok hrt) hij hj
    have h2 := under_iff hB (ord_ok hrt) hij hj
    constructor
    · intro h
      have := h (gof l i) (List.mem_range.mpr hg)
      exact of_decide_eq_true this
    · intro h q hq
      rw [List.mem_range] at hq
      have hb : B i j = true := h1.mp (by
        have a := xi (gof l i) hg
        have b := xj (gof l i) hg
        unfold gof at a b ⊢
        omega)
      have := (h2.mpr hb) q
      rw [decide_eq_true_eq, xi q hq, xj q hq]
      omega
  · simp [hij]
end
end Go.Proofs.Ytkhhkgfaakgdfaa.pg
/- A store of one cell, what is left under a name of its own. -/
namespace Go.Proofs.Ytkhhkgfaakgdfaa.pg
open Go.ChangeShapes Go.WideShapes Go.ChangeAt Go.RowKit
set_option linter.unusedVariables false
set_option linter.unusedSimpArgs false
theorem wpList_puti {P : Program} {ops : Array Oper} {rest : List Oper} {o : Oper} {a : Act} {w : World} {Q : Exit → Act → World → Prop} (hgd : o.guard = none) (ty : TypeId) (x y : Operand) (ho : o.op = .store ty x y) (ad : Addr) (hx : a.eval x = .pointer (some ad)) (n : Int) (hy : a.eval y = (.int .i64 n)) (hi : (P.info? ty).map (·.size) = some 1) (v : Value) (hc : w.cell? ad = some v) (hf : w.frozen? ad = false)
    (h : ∀ W', W' = w.setCell ad (.int .i64 n) → wpList P ops Q rest (a.put o.dst undef) W') : wpList P ops Q (o :: rest) a w := wpList_plain hgd fun K hK => by
  have hr : (execOp a.eval o).run P w = .ok .skip (w.setCell ad (.int .i64 n)) := by
    cases hq : P.info? ty with
    | none => simp [hq] at hi
    | some i =>
      have hs : i.size = 1 := by simpa [hq] using hi
      unfold execOp
      simp only [ho, hx, hy]
      simp [Instr.storeAt, Instr.sureAddr, storeVar, sizeOf, typeInfo, hq, hs, Value.cells, go_sem, hc, hf]
  unfold Oper.wp
  rw [hr]
  exact hK _ _ (h _ rfl)
theorem wpList_putb {P : Program} {ops : Array Oper} {rest : List Oper} {o : Oper} {a : Act} {w : World} {Q : Exit → Act → World → Prop} (hgd : o.guard = none) (ty : TypeId) (x y : Operand) (ho : o.op = .store ty x y) (ad : Addr) (hx : a.eval x = .pointer (some ad)) (b : Bool) (hy : a.eval y = (.bool b)) (hi : (P.info? ty).map (·.size) = some 1) (v : Value) (hc : w.cell? ad = some v) (hf : w.frozen? ad = false)
    (h : ∀ W', W' = w.setCell ad (.bool b) → wpList P ops Q rest (a.put o.dst undef) W') : wpList P ops Q (o :: rest) a w := wpList_plain hgd fun K hK => by
  have hr : (execOp a.eval o).run P w = .ok .skip (w.setCell ad (.bool b)) := by
    cases hq : P.info? ty with
    | none => simp [hq] at hi
    | some i =>
      have hs : i.size = 1 := by simpa [hq] using hi
      unfold execOp
      simp only [ho, hx, hy]
      simp [Instr.storeAt, Instr.sureAddr, storeVar, sizeOf, typeInfo, hq, hs, Value.cells, go_sem, hc, hf]
  unfold Oper.wp
  rw [hr]
  exact hK _ _ (h _ rfl)
theorem wpList_puts {P : Program} {ops : Array Oper} {rest : List Oper} {o : Oper} {a : Act} {w : World} {Q : Exit → Act → World → Prop} (hgd : o.guard = none) (ty : TypeId) (x y : Operand) (ho : o.op = .store ty x y) (ad : Addr) (hx : a.eval x = .pointer (some ad)) (g : Option Addr) (n cap : Nat) (hy : a.eval y = (.slice g n cap)) (hi : (P.info? ty).map (·.size) = some 1) (v : Value) (hc : w.cell? ad = some v) (hf : w.frozen? ad = false)
    (h : ∀ W', W' = w.setCell ad (.slice g n cap) → wpList P ops Q rest (a.put o.dst undef) W') : wpList P ops Q (o :: rest) a w := wpList_plain hgd fun K hK => by
  have hr : (execOp a.eval o).run P w = .ok .skip (w.setCell ad (.slice g n cap)) := by
    cases hq : P.info? ty with
    | none => simp [hq] at hi
    | some i =>
      have hs : i.size = 1 := by simpa [hq] using hi
      unfold execOp
      simp only [ho, hx, hy]
      simp [Instr.storeAt, Instr.sureAddr, storeVar, sizeOf, typeInfo, hq, hs, Value.cells, go_sem, hc, hf]
  unfold Oper.wp
  rw [hr]
  exact hK _ _ (h _ rfl)
end Go.Proofs.Ytkhhkgfaakgdfaa.pg
