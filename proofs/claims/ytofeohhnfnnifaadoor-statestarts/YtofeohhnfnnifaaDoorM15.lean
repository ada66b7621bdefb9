/- May an operation fail for a reason: package state's mayFail and the document's own failing. -/
import Derived.Test.YtofeohhnfnnifaaDoorM12
import Derived.Test.YtofeohhnfnnifaaDoorM7
namespace Go.Proofs.YtofeohhnfnnifaaDoor.pg
open Go.ChangeShapes Go.WideShapes Go.ChangeAt Go.RowKit
set_option linter.unusedVariables false
set_option linter.unusedSimpArgs false
set_option maxRecDepth 100000
theorem mayFail_any (op why : Int) (R : Bool) (hR : Hid (R = true ↔ failB op why)) (w : World) : Calls Tryd.prog 43 #[.int .i64 op, .int .i64 why] w fun e w' => e = .returned (.bool R) ∧ w' = w := by
  by_cases h1 : why = 1
  · subst h1
    by_cases o44 : op = 44
    · subst o44
      have e : R = true := hR.out.mpr (by unfold failB; omega)
      subst e
      clear hR
      go_enter Tryd.func43, Tryd.ntmps43
      go_wp2
      go_ret
      exact ⟨rfl, rfl⟩
    have e : R = false := by
      rw [Bool.eq_false_iff]
      intro q
      have := hR.out.mp q
      unfold failB at this
      omega
    subst e
    clear hR
    have e44 : (op == 44) = false := by simpa using o44
    clear o44
    go_enter Tryd.func43, Tryd.ntmps43
    go_wp2
    go_ret
    exact ⟨rfl, rfl⟩
  by_cases h2 : why = 2
  · subst h2
    by_cases o19 : op = 19
    · subst o19
      have e : R = true := hR.out.mpr (by unfold failB; omega)
      subst e
      clear hR
      go_enter Tryd.func43, Tryd.ntmps43
      go_wp2
      go_ret
      exact ⟨rfl, rfl⟩
    by_cases o20 : op = 20
    · subst o20
      have e : R = true := hR.out.mpr (by unfold failB; omega)
      subst e
      clear hR
      go_enter Tryd.func43, Tryd.ntmps43
      go_wp2
      go_ret
      exact ⟨rfl, rfl⟩
    have e : R = false := by
      rw [Bool.eq_false_iff]
      intro q
      have := hR.out.mp q
      unfold failB at this
      omega
    subst e
    clear hR
    have e19 : (op == 19) = false := by simpa using o19
    clear o19
    have e20 : (op == 20) = false := by simpa using o20
    clear o20
    go_enter Tryd.func43, Tryd.ntmps43
    go_wp2
    go_ret
    exact ⟨rfl, rfl⟩
  by_cases h3 : why = 3
  · subst h3
    by_cases o25 : op = 25
    · subst o25
      have e : R = true := hR.out.mpr (by unfold failB; omega)
      subst e
      clear hR
      go_enter Tryd.func43, Tryd.ntmps43
      go_wp2
      go_ret
      exact ⟨rfl, rfl⟩
    by_cases o26 : op = 26
    · subst o26
      have e : R = true := hR.out.mpr (by unfold failB; omega)
      subst e
      clear hR
      go_enter Tryd.func43, Tryd.ntmps43
      go_wp2
      go_ret
      exact ⟨rfl, rfl⟩
    by_cases o27 : op = 27
    · subst o27
      have e : R = true := hR.out.mpr (by unfold failB; omega)
      subst e
      clear hR
      go_enter Tryd.func43, Tryd.ntmps43
      go_wp2
      go_ret
      exact ⟨rfl, rfl⟩
    have e : R = false := by
      rw [Bool.eq_false_iff]
      intro q
      have := hR.out.mp q
      unfold failB at this
      omega
    subst e
    clear hR
    have e25 : (op == 25) = false := by simpa using o25
    clear o25
    have e26 : (op == 26) = false := by simpa using o26
    clear o26
    have e27 : (op == 27) = false := by simpa using o27
    clear o27
    go_enter Tryd.func43, Tryd.ntmps43
    go_wp2
    go_ret
    exact ⟨rfl, rfl⟩
  by_cases h4 : why = 4
  · subst h4
    by_cases o58 : op = 58
    · subst o58
      have e : R = true := hR.out.mpr (by unfold failB; omega)
      subst e
      clear hR
      go_enter Tryd.func43, Tryd.ntmps43
      go_wp2
      go_ret
      exact ⟨rfl, rfl⟩
    by_cases o61 : op = 61
    · subst o61
      have e : R = true := hR.out.mpr (by unfold failB; omega)
      subst e
      clear hR
      go_enter Tryd.func43, Tryd.ntmps43
      go_wp2
      go_ret
      exact ⟨rfl, rfl⟩
    have e : R = false := by
      rw [Bool.eq_false_iff]
      intro q
      have := hR.out.mp q
      unfold failB at this
      omega
    subst e
    clear hR
    have e58 : (op == 58) = false := by simpa using o58
    clear o58
    have e61 : (op == 61) = false := by simpa using o61
    clear o61
    go_enter Tryd.func43, Tryd.ntmps43
    go_wp2
    go_ret
    exact ⟨rfl, rfl⟩
  by_cases h5 : why = 5
  · subst h5
    by_cases o60 : op = 60
    · subst o60
      have e : R = true := hR.out.mpr (by unfold failB; omega)
      subst e
      clear hR
      go_enter Tryd.func43, Tryd.ntmps43
      go_wp2
      go_ret
      exact ⟨rfl, rfl⟩
    have e : R = false := by
      rw [Bool.eq_false_iff]
      intro q
      have := hR.out.mp q
      unfold failB at this
      omega
    subst e
    clear hR
    have e60 : (op == 60) = false := by simpa using o60
    clear o60
    go_enter Tryd.func43, Tryd.ntmps43
    go_wp2
    go_ret
    exact ⟨rfl, rfl⟩
  by_cases h6 : why = 6
  · subst h6
    by_cases o56 : op = 56
    · subst o56
      have e : R = true := hR.out.mpr (by unfold failB; omega)
      subst e
      clear hR
      go_enter Tryd.func43, Tryd.ntmps43
      go_wp2
      go_ret
      exact ⟨rfl, rfl⟩
    have e : R = false := by
      rw [Bool.eq_false_iff]
      intro q
      have := hR.out.mp q
      unfold failB at this
      omega
    subst e
    clear hR
    have e56 : (op == 56) = false := by simpa using o56
    clear o56
    go_enter Tryd.func43, Tryd.ntmps43
    go_wp2
    go_ret
    exact ⟨rfl, rfl⟩
  by_cases h7 : why = 7
  · subst h7
    by_cases o63 : op = 63
    · subst o63
      have e : R = true := hR.out.mpr (by unfold failB; omega)
      subst e
      clear hR
      go_enter Tryd.func43, Tryd.ntmps43
      go_wp2
      go_ret
      exact ⟨rfl, rfl⟩
    have e : R = false := by
      rw [Bool.eq_false_iff]
      intro q
      have := hR.out.mp q
      unfold failB at this
      omega
    subst e
    clear hR
    have e63 : (op == 63) = false := by simpa using o63
    clear o63
    go_enter Tryd.func43, Tryd.ntmps43
    go_wp2
    go_ret
    exact ⟨rfl, rfl⟩
  by_cases h8 : why = 8
  · subst h8
    by_cases o62 : op = 62
    · subst o62
      have e : R = true := hR.out.mpr (by unfold failB; omega)
      subst e
      clear hR
      go_enter Tryd.func43, Tryd.ntmps43
      go_wp2
      go_ret
      exact ⟨rfl, rfl⟩
    have e : R = false := by
      rw [Bool.eq_false_iff]
      intro q
      have := hR.out.mp q
      unfold failB at this
      omega
    subst e
    clear hR
    have e62 : (op == 62) = false := by simpa using o62
    clear o62
    go_enter Tryd.func43, Tryd.ntmps43
    go_wp2
    go_ret
    exact ⟨rfl, rfl⟩
  have e : R = false := by
    rw [Bool.eq_false_iff]
    intro q
    have := hR.out.mp q
    unfold failB at this
    omega
  subst e
  clear hR
  have e1 : (why == 1) = false := by simpa using h1
  clear h1
  have e2 : (why == 2) = false := by simpa using h2
  clear h2
  have e3 : (why == 3) = false := by simpa using h3
  clear h3
  have e4 : (why == 4) = false := by simpa using h4
  clear h4
  have e5 : (why == 5) = false := by simpa using h5
  clear h5
  have e6 : (why == 6) = false := by simpa using h6
  clear h6
  have e7 : (why == 7) = false := by simpa using h7
  clear h7
  have e8 : (why == 8) = false := by simpa using h8
  clear h8
  go_enter Tryd.func43, Tryd.ntmps43
  go_wp2
  go_ret
  exact ⟨rfl, rfl⟩
theorem failing_any (op why : Int) (R : Bool) (hR : Hid (R = true ↔ failB op why)) (w : World) : Calls Tryd.prog 45 #[.int .i64 op, .int .i64 why] w fun e w' => e = .returned (.bool R) ∧ w' = w := by
  by_cases h1 : why = 1
  · subst h1
    by_cases o44 : op = 44
    · subst o44
      have e : R = true := hR.out.mpr (by unfold failB; omega)
      subst e
      clear hR
      go_enter Tryd.func45, Tryd.ntmps45
      go_wp2
      go_ret
      exact ⟨rfl, rfl⟩
    have e : R = false := by
      rw [Bool.eq_false_iff]
      intro q
      have := hR.out.mp q
      unfold failB at this
      omega
    subst e
    clear hR
    have e44 : (op == 44) = false := by simpa using o44
    clear o44
    go_enter Tryd.func45, Tryd.ntmps45
    go_wp2
    go_ret
    exact ⟨rfl, rfl⟩
  by_cases h2 : why = 2
  · subst h2
    by_cases o19 : op = 19
    · subst o19
      have e : R = true := hR.out.mpr (by unfold failB; omega)
      subst e
      clear hR
      go_enter Tryd.func45, Tryd.ntmps45
      go_wp2
      go_ret
      exact ⟨rfl, rfl⟩
    by_cases o20 : op = 20
    · subst o20
      have e : R = true := hR.out.mpr (by unfold failB; omega)
      subst e
      clear hR
      go_enter Tryd.func45, Tryd.ntmps45
      go_wp2
      go_ret
      exact ⟨rfl, rfl⟩
    have e : R = false := by
      rw [Bool.eq_false_iff]
      intro q
      have := hR.out.mp q
      unfold failB at this
      omega
    subst e
    clear hR
    have e19 : (op == 19) = false := by simpa using o19
    clear o19
    have e20 : (op == 20) = false := by simpa using o20
    clear o20
    go_enter Tryd.func45, Tryd.ntmps45
    go_wp2
    go_ret
    exact ⟨rfl, rfl⟩
  by_cases h3 : why = 3
  · subst h3
    by_cases o25 : op = 25
    · subst o25
      have e : R = true := hR.out.mpr (by unfold failB; omega)
      subst e
      clear hR
      go_enter Tryd.func45, Tryd.ntmps45
      go_wp2
      go_ret
      exact ⟨rfl, rfl⟩
    by_cases o26 : op = 26
    · subst o26
      have e : R = true := hR.out.mpr (by unfold failB; omega)
      subst e
      clear hR
      go_enter Tryd.func45, Tryd.ntmps45
      go_wp2
      go_ret
      exact ⟨rfl, rfl⟩
    by_cases o27 : op = 27
    · subst o27
      have e : R = true := hR.out.mpr (by unfold failB; omega)
      subst e
      clear hR
      go_enter Tryd.func45, Tryd.ntmps45
      go_wp2
      go_ret
      exact ⟨rfl, rfl⟩
    have e : R = false := by
      rw [Bool.eq_false_iff]
      intro q
      have := hR.out.mp q
      unfold failB at this
      omega
    subst e
    clear hR
    by_cases lt : op < 25
    · clear o25 o26 o27
      go_enter Tryd.func45, Tryd.ntmps45
      go_wp2
      go_ret
      exact ⟨rfl, rfl⟩
    · have gt : 27 < op := by omega
      have d27 : decide (op ≤ 27) = false := by simp; omega
      clear o25 o26 o27 lt
      go_enter Tryd.func45, Tryd.ntmps45
      go_wp2
      go_ret
      exact ⟨rfl, rfl⟩
  by_cases h4 : why = 4
  · subst h4
    by_cases o58 : op = 58
    · subst o58
      have e : R = true := hR.out.mpr (by unfold failB; omega)
      subst e
      clear hR
      go_enter Tryd.func45, Tryd.ntmps45
      go_wp2
      go_ret
      exact ⟨rfl, rfl⟩
    by_cases o61 : op = 61
    · subst o61
      have e : R = true := hR.out.mpr (by unfold failB; omega)
      subst e
      clear hR
      go_enter Tryd.func45, Tryd.ntmps45
      go_wp2
      go_ret
      exact ⟨rfl, rfl⟩
    have e : R = false := by
      rw [Bool.eq_false_iff]
      intro q
      have := hR.out.mp q
      unfold failB at this
      omega
    subst e
    clear hR
    have e58 : (op == 58) = false := by simpa using o58
    clear o58
    have e61 : (op == 61) = false := by simpa using o61
    clear o61
    go_enter Tryd.func45, Tryd.ntmps45
    go_wp2
    go_ret
    exact ⟨rfl, rfl⟩
  by_cases h5 : why = 5
  · subst h5
    by_cases o60 : op = 60
    · subst o60
      have e : R = true := hR.out.mpr (by unfold failB; omega)
      subst e
      clear hR
      go_enter Tryd.func45, Tryd.ntmps45
      go_wp2
      go_ret
      exact ⟨rfl, rfl⟩
    have e : R = false := by
      rw [Bool.eq_false_iff]
      intro q
      have := hR.out.mp q
      unfold failB at this
      omega
    subst e
    clear hR
    have e60 : (op == 60) = false := by simpa using o60
    clear o60
    go_enter Tryd.func45, Tryd.ntmps45
    go_wp2
    go_ret
    exact ⟨rfl, rfl⟩
  by_cases h6 : why = 6
  · subst h6
    by_cases o56 : op = 56
    · subst o56
      have e : R = true := hR.out.mpr (by unfold failB; omega)
      subst e
      clear hR
      go_enter Tryd.func45, Tryd.ntmps45
      go_wp2
      go_ret
      exact ⟨rfl, rfl⟩
    have e : R = false := by
      rw [Bool.eq_false_iff]
      intro q
      have := hR.out.mp q
      unfold failB at this
      omega
    subst e
    clear hR
    have e56 : (op == 56) = false := by simpa using o56
    clear o56
    go_enter Tryd.func45, Tryd.ntmps45
    go_wp2
    go_ret
    exact ⟨rfl, rfl⟩
  by_cases h7 : why = 7
  · subst h7
    by_cases o63 : op = 63
    · subst o63
      have e : R = true := hR.out.mpr (by unfold failB; omega)
      subst e
      clear hR
      go_enter Tryd.func45, Tryd.ntmps45
      go_wp2
      go_ret
      exact ⟨rfl, rfl⟩
    have e : R = false := by
      rw [Bool.eq_false_iff]
      intro q
      have := hR.out.mp q
      unfold failB at this
      omega
    subst e
    clear hR
    have e63 : (op == 63) = false := by simpa using o63
    clear o63
    go_enter Tryd.func45, Tryd.ntmps45
    go_wp2
    go_ret
    exact ⟨rfl, rfl⟩
  by_cases h8 : why = 8
  · subst h8
    by_cases o62 : op = 62
    · subst o62
      have e : R = true := hR.out.mpr (by unfold failB; omega)
      subst e
      clear hR
      go_enter Tryd.func45, Tryd.ntmps45
      go_wp2
      go_ret
      exact ⟨rfl, rfl⟩
    have e : R = false := by
      rw [Bool.eq_false_iff]
      intro q
      have := hR.out.mp q
      unfold failB at this
      omega
    subst e
    clear hR
    have e62 : (op == 62) = false := by simpa using o62
    clear o62
    go_enter Tryd.func45, Tryd.ntmps45
    go_wp2
    go_ret
    exact ⟨rfl, rfl⟩
  have e : R = false := by
    rw [Bool.eq_false_iff]
    intro q
    have := hR.out.mp q
    unfold failB at this
    omega
  subst e
  clear hR
  have e1 : (why == 1) = false := by simpa using h1
  clear h1
  have e2 : (why == 2) = false := by simpa using h2
  clear h2
  have e3 : (why == 3) = false := by simpa using h3
  clear h3
  have e4 : (why == 4) = false := by simpa using h4
  clear h4
  have e5 : (why == 5) = false := by simpa using h5
  clear h5
  have e6 : (why == 6) = false := by simpa using h6
  clear h6
  have e7 : (why == 7) = false := by simpa using h7
  clear h7
  have e8 : (why == 8) = false := by simpa using h8
  clear h8
  go_enter Tryd.func45, Tryd.ntmps45
  go_wp2
  go_ret
  exact ⟨rfl, rfl⟩
end Go.Proofs.YtofeohhnfnnifaaDoor.pg
/- A store of one cell, what is left under a name of its own. -/
namespace Go.Proofs.YtofeohhnfnnifaaDoor.pg
open Go.ChangeShapes Go.WideShapes Go.ChangeAt Go.RowKit
set_option linter.unusedVariables false
set_option linter.unusedSimpArgs false
theorem wpList_puti {P : Program} {ops : Array Oper} {rest : List Oper} {o : Oper} {a : Act} {w : World} {Q : Exit → Act → World → Prop} (hgd : o.guard = none) (ty : TypeId) (x y : Operand) (ho : o.op = .store ty x y) (ad : Addr) (hx : a.eval x = .pointer (some ad)) (n : Int) (hy : a.eval y = (.int .i64 n)) (hi : (P.info? ty).map (·.size) = some 1) (v : Value) (hc : w.cell? ad = some v) (hf : w.frozen? ad = false)
    (h : ∀ W', W' = w.setCell ad (.int .i64 n) → wpList P ops Q rest (a.put o.dst undef) W') : wpList P ops Q (o :: rest) a w := wpList_plain hgd fun K hK => by
  have hr : (execOp a.eval o).run P w = .ok .skip (w.setCell ad (.int .i64 n)) := by
    cases hq : P.info? ty with
    | none => simp [hq] at hi
    | some i =>
      have hs : i.size = 1 := by simpa [hq] using hi
      unfold execOp
      simp only [ho, hx, hy]
      simp [Instr.storeAt, Instr.sureAddr, storeVar, sizeOf, typeInfo, hq, hs, Value.cells, go_sem, hc, hf]
  unfold Oper.wp
  rw [hr]
  exact hK _ _ (h _ rfl)
theorem wpList_putb {P : Program} {ops : Array Oper} {rest : List Oper} {o : Oper} {a : Act} {w : World} {Q : Exit → Act → World → Prop} (hgd : o.guard = none) (ty : TypeId) (x y : Operand) (ho : o.op = .store ty x y) (ad : Addr) (hx : a.eval x = .pointer (some ad)) (b : Bool) (hy : a.eval y = (.bool b)) (hi : (P.info? ty).map (·.size) = some 1) (v : Value) (hc : w.cell? ad = some v) (hf : w.frozen? ad = false)
    (h : ∀ W', W' = w.setCell ad (.bool b) → wpList P ops Q rest (a.put o.dst undef) W') : wpList P ops Q (o :: rest) a w := wpList_plain hgd fun K hK => by
  have hr : (execOp a.eval o).run P w = .ok .skip (w.setCell ad (.bool b)) := by
    cases hq : P.info? ty with
    | none => simp [hq] at hi
    | some i =>
      have hs : i.size = 1 := by simpa [hq] using hi
      unfold execOp
      simp only [ho, hx, hy]
      simp [Instr.storeAt, Instr.sureAddr, storeVar, sizeOf, typeInfo, hq, hs, Value.cells, go_sem, hc, hf]
  unfold Oper.wp
  rw [hr]
  exact hK _ _ (h _ rfl)
theorem wpList_puts {P : Program} {ops : Array Oper} {rest : List Oper} {o : Oper} {a : Act} {w : World} {Q : Exit → Act → World → Prop} (hgd : o.guard = none) (ty : TypeId) (x y : Operand) (ho : o.op = .store ty x y) (ad : Addr) (hx : a.eval x = .pointer (some ad)) (g : Option Addr) (n cap : Nat) (hy : a.eval y = (.slice g n cap)) (hi : (P.info? ty).map (·.size) = some 1) (v : Value) (hc : w.cell? ad = some v) (hf : w.frozen? ad = false)
    (h : ∀ W', W' = w.setCell ad (.slice g n cap) → wpList P ops Q rest (a.put o.dst undef) W') : wpList P ops Q (o :: rest) a w := wpList_plain hgd fun K hK => by
  have hr : (execOp a.eval o).run P w = .ok .skip (w.setCell ad (.slice g n cap)) := by
    cases hq : P.info? ty with
    | none => simp [hq] at hi
    | some i =>
      have hs : i.size = 1 := by simpa [hq] using hi
      unfold execOp
      simp only [ho, hx, hy]
      simp [Instr.storeAt, Instr.sureAddr, storeVar, sizeOf, typeInfo, hq, hs, Value.cells, go_sem, hc, hf]
  unfold Oper.wp
  rw [hr]
  exact hK _ _ (h _ rfl)
end Go.Proofs.YtofeohhnfnnifaaDoor.pg
