/- A matrix of truths: the block of its rows, and each row's block. -/
import Derived.Test.YtdfnmlcpimiboaaM17
import Derived.Test.YtdfnmlcpimiboaaM16
import Derived.Test.YtdfnmlcpimiboaaM6
namespace Go.Proofs.Ytdfnmlcpimiboaa.pg
open Go.ChangeShapes Go.WideShapes Go.ChangeAt Go.RowKit Go.Shelf
set_option linter.unusedVariables false
set_option linter.unusedSimpArgs false
set_option maxRecDepth 100000
def boolRow (n : Nat) (f : Nat → Bool) : Array Value := ((List.range n).map fun j => Value.bool (f j)).toArray
def sliceRow (n k : Nat) (rb : Nat → Nat) : Array Value := ((List.range n).map fun i => if i < k then Value.slice (some ⟨rb i, 0, none⟩) n n else Value.slice none 0 0).toArray
theorem boolRow_at {n : Nat} {f : Nat → Bool} {j : Nat} (h : j < n) : (boolRow n f)[j]? = some (.bool (f j)) := by simp [boolRow, h]
theorem sliceRow_at {n k : Nat} {rb : Nat → Nat} {i : Nat} (h : i < n) : (sliceRow n k rb)[i]? = some (if i < k then Value.slice (some ⟨rb i, 0, none⟩) n n else Value.slice none 0 0) := by simp [sliceRow, h]
theorem boolRow_set {n : Nat} {f : Nat → Bool} {j : Nat} (v : Bool) : (boolRow n f).setIfInBounds j (.bool v) = boolRow n (fun b => if b = j then v else f b) := by
  apply Array.ext'
  simp only [boolRow, Array.toList_setIfInBounds, List.toList_toArray]
  apply List.ext_getElem?
  intro k
  rw [List.getElem?_set]
  simp only [List.length_map, List.length_range, List.getElem?_map]
  by_cases c : j = k
  · subst c
    by_cases h : j < n
    · simp [h, List.getElem?_range]
    · simp [h, List.getElem?_range]
  · rw [if_neg c]
    by_cases h : k < n
    · simp [List.getElem?_range, h, Ne.symm c]
    · simp [List.getElem?_range, h]
theorem sliceRow_set {n k : Nat} {rb : Nat → Nat} {b : Nat} (hk : k < n) (hb : rb k = b) : (sliceRow n k rb).setIfInBounds k (.slice (some ⟨b, 0, none⟩) n n) = sliceRow n (k + 1) rb := by
  subst hb
  apply Array.ext'
  simp only [sliceRow, Array.toList_setIfInBounds, List.toList_toArray]
  apply List.ext_getElem?
  intro q
  rw [List.getElem?_set]
  simp only [List.length_map, List.length_range, List.getElem?_map]
  by_cases c : k = q
  · subst c
    simp [hk, List.getElem?_range]
  · rw [if_neg c]
    by_cases h : q < n
    · simp only [List.getElem?_range h, Option.map_some]
      by_cases h2 : q < k
      · rw [if_pos h2, if_pos (by omega)]
      · rw [if_neg h2, if_neg (by omega)]
    · simp [List.getElem?_range, h]
theorem boolRow_new (n : Nat) : (List.replicate n (Value.bool false)).toArray = boolRow n fun _ => false := by
  apply Array.ext'
  simp only [boolRow, List.toList_toArray]
  apply List.ext_getElem?
  intro k
  by_cases c : k < n
  · simp [c, List.getElem?_range, List.getElem?_replicate]
  · simp [c, List.getElem?_range, List.getElem?_replicate]
theorem infoBl : (Try.prog.info? 4).map (fun i => (i.zero, i.size, i.bytes)) = some (some (.bool false), 1, 1) := by kernel_rfl
end Go.Proofs.Ytdfnmlcpimiboaa.pg
/- An empty list literal; a row of a list written over. -/
namespace Go.Proofs.Ytdfnmlcpimiboaa.pg
open Go.ChangeShapes Go.WideShapes Go.ChangeAt Go.RowKit
set_option linter.unusedVariables false
set_option linter.unusedSimpArgs false
theorem wpList_empty {P : Program} {ops : Array Oper} {rest : List Oper} {o : Oper} {a : Act} {w : World} {Q : Exit → Act → World → Prop} (hg : o.guard = none) (t e : TypeId) (ho : o.op = .buildSlice t 0 #[]) (ie : TypeInfo)
    (hu : P.underlying t = some (.slice e)) (hie : P.info? e = some ie)
    (h : wpList P ops Q rest (a.put o.dst (.slice (some ⟨w.heap.size, 0, none⟩) 0 0)) (w.alloc (.cells #[] e))) : wpList P ops Q (o :: rest) a w :=
  wpList_plain hg fun _ hK => by
    have hr : (Instr.buildSlice t 0 #[]).run P w = .ok (.slice (some ⟨w.heap.size, 0, none⟩) 0 0) (w.alloc (.cells #[] e)) := by
      simp [Instr.buildSlice, run_underlying hu, sizeOf, typeInfo, hie, newRow, Instr.fill, go_sem]
    unfold Oper.wp execOp
    simp only [ho, Sem.run_bind, Sem.run_pure, Result.andThen_ok, List.map_toArray, List.map_nil, Array.map_empty, hr]
    exact hK _ _ h
theorem own_empty (w : World) (lo e k : Nat) (hl : lo ≤ w.heap.size) : OwnL (w.alloc (.cells #[] e)) lo e k (some ⟨w.heap.size, 0, none⟩) 0 [] :=
  ⟨by simp, .inr ⟨w.heap.size, 0, #[], rfl, hl, heap_new_q w _, by simp, by unfold maxLen; omega, by simp, by simp⟩⟩
/-- A row of an own list can be written over. -/
theorem own_there {w : World} {lo e k : Nat} {g cap : Nat} {L : List (List Value)} (h : OwnL w lo e k (some ⟨g, 0, none⟩) cap L) (hk : ∀ row ∈ L, row.length = k) {i : Nat} (hi : i < L.length) : w.there g (i * k) k := by
  have hr := own_rows h hk
  obtain ⟨x, hx, hm⟩ := get_lt L i hi
  obtain ⟨b0, off, ha, hlt, hc⟩ := hr.row hx
  intro j hj
  refine ⟨?_, ?_⟩
  · have hlt2 : i * k + j < L.length * k := by
      have : (i + 1) * k ≤ L.length * k := Nat.mul_le_mul_right k hi
      rw [Nat.add_mul] at this
      omega
    rw [World.ownsRow.cellAt h (i * k + j) hlt2, flatten_at L hk i x hx j hj, List.getElem?_eq_getElem (by rw [hk x hm]; exact hj)]
    rfl
  · rcases h.2 with ⟨h1, _⟩ | ⟨g', cap', cur, h1, _, hg, _⟩
    · simp only [Value.slice.injEq] at h1
      cases h1.1
    · simp only [Value.slice.injEq, Option.some.injEq, Addr.mk.injEq, and_true, true_and] at h1
      rw [h1.1]
      exact frozen_of_row _ _ _ _ _ hg
theorem rows_put {w : World} {k g cap : Nat} {L : List (List Value)} (h : Rows w k (some ⟨g, 0, none⟩) cap L) {i : Nat} (hi : i < L.length) {row : List Value} (hr : row.length = k) (ht : w.there g (i * k) k) : Rows (w.setCells g (i * k) row) k (some ⟨g, 0, none⟩) cap (L.set i row) := by
  obtain ⟨h1, h2, h3, h4⟩ := h
  rcases h4 with rfl | ⟨b, off, ha, hlt, hc⟩
  · simp at hi
  · simp only [Option.some.injEq, Addr.mk.injEq, and_true] at ha
    obtain ⟨rfl, rfl⟩ := ha
    refine ⟨by simpa using h1, h2, by simp, .inr ⟨g, 0, rfl, ?_, fun q rw' hq => ?_⟩⟩
    · have := (World.keptBut_setCells g (may := fun _ => True) row (i * k) w (fun _ _ => trivial))
      have hs : w.heap.size ≤ (w.setCells g (i * k) row).heap.size := by
        have e : ∀ (vs : List Value) (o : Nat) (w : World), (w.setCells g o vs).heap.size = w.heap.size := by
          intro vs
          induction vs with
          | nil => intro o w; rfl
          | cons v vs ih => intro o w; simp only [World.setCells]; rw [ih]; exact World.size_setCell _ _ _
        rw [e]; exact Nat.le_refl _
      omega
    · rw [List.getElem?_set] at hq
      by_cases c : i = q
      · subst c
        rw [if_pos rfl, if_pos hi, Option.some.injEq] at hq
        subst hq
        refine ⟨hr, fun j u hj => ?_⟩
        have hjl := (List.getElem?_eq_some_iff.mp hj).1
        rw [Nat.zero_add]
        rw [World.cell?_setCells_in g row (i * k) w (fun j hj => (ht j (by omega)).1) j hjl]
        rw [← hj, List.getElem?_eq_getElem hjl]
      · rw [if_neg c] at hq
        obtain ⟨r1, r2⟩ := hc q rw' hq
        refine ⟨r1, fun j u hj => ?_⟩
        rw [World.cell?_setCells_out g row (i * k) w]
        · exact r2 j u hj
        · intro _ _
          show 0 + (q * k + j) < i * k ∨ i * k + row.length ≤ 0 + (q * k + j)
          have hjl : j < k := by have := (List.getElem?_eq_some_iff.mp hj).1; omega
          rw [hr]
          rcases Nat.lt_or_gt_of_ne c with c | c
          · right
            have : (i + 1) * k ≤ q * k := Nat.mul_le_mul_right k c
            rw [Nat.add_mul] at this
            omega
          · left
            have : (q + 1) * k ≤ i * k := Nat.mul_le_mul_right k c
            rw [Nat.add_mul] at this
            omega
theorem size_setCells (g : Nat) : ∀ (vs : List Value) (o : Nat) (w : World), (w.setCells g o vs).heap.size = w.heap.size
  | [], _, _ => rfl
  | v :: vs, o, w => by simp only [World.setCells]; rw [size_setCells g vs]; exact World.size_setCell _ _ _
theorem below_setCells {n₀ g : Nat} (hg : n₀ ≤ g) : ∀ (vs : List Value) (o : Nat) (w w' : World), Below n₀ w w' → Below n₀ w (w'.setCells g o vs)
  | [], _, _, _, h => h
  | v :: vs, o, w, w', h => below_setCells hg vs (o + 1) w _ (h.setCell (p := ⟨g, o, none⟩) hg v)
theorem rows_ix_g {t e : TypeId} {k : Nat} (hu : Try.prog.underlying t = some (.slice e)) (hz : ∀ wx, (sizeOf e).run Try.prog wx = .ok k wx) (g n cap i : Nat) (h : i < n) : ∀ wx, (Instr.indexAt t (.slice (some ⟨g, 0, none⟩) n cap) (.int .i64 (i : Int))).run Try.prog wx = .ok (.pointer (some ⟨g, i * k, none⟩)) wx := by
  intro wx
  have q1 : (i : Int) < n := by omega
  have q2 : ¬ (i : Int) < 0 := by omega
  simp [Instr.indexAt, run_underlying hu, asIntOf, go_sem, hz, q1, q2, h]
end Go.Proofs.Ytdfnmlcpimiboaa.pg
/- A store of one cell, what is left under a name of its own. -/
namespace Go.Proofs.Ytdfnmlcpimiboaa.pg
open Go.ChangeShapes Go.WideShapes Go.ChangeAt Go.RowKit
set_option linter.unusedVariables false
set_option linter.unusedSimpArgs false
theorem wpList_puti {P : Program} {ops : Array Oper} {rest : List Oper} {o : Oper} {a : Act} {w : World} {Q : Exit → Act → World → Prop} (hgd : o.guard = none) (ty : TypeId) (x y : Operand) (ho : o.op = .store ty x y) (ad : Addr) (hx : a.eval x = .pointer (some ad)) (n : Int) (hy : a.eval y = (.int .i64 n)) (hi : (P.info? ty).map (·.size) = some 1) (v : Value) (hc : w.cell? ad = some v) (hf : w.frozen? ad = false)
    (h : ∀ W', W' = w.setCell ad (.int .i64 n) → wpList P ops Q rest (a.put o.dst undef) W') : wpList P ops Q (o :: rest) a w := wpList_plain hgd fun K hK => by
  have hr : (execOp a.eval o).run P w = .ok .skip (w.setCell ad (.int .i64 n)) := by
    cases hq : P.info? ty with
    | none => simp [hq] at hi
    | some i =>
      have hs : i.size = 1 := by simpa [hq] using hi
      unfold execOp
      simp only [ho, hx, hy]
      simp [Instr.storeAt, Instr.sureAddr, storeVar, sizeOf, typeInfo, hq, hs, Value.cells, go_sem, hc, hf]
  unfold Oper.wp
  rw [hr]
  exact hK _ _ (h _ rfl)
theorem wpList_putb {P : Program} {ops : Array Oper} {rest : List Oper} {o : Oper} {a : Act} {w : World} {Q : Exit → Act → World → Prop} (hgd : o.guard = none) (ty : TypeId) (x y : Operand) (ho : o.op = .store ty x y) (ad : Addr) (hx : a.eval x = .pointer (some ad)) (b : Bool) (hy : a.eval y = (.bool b)) (hi : (P.info? ty).map (·.size) = some 1) (v : Value) (hc : w.cell? ad = some v) (hf : w.frozen? ad = false)
    (h : ∀ W', W' = w.setCell ad (.bool b) → wpList P ops Q rest (a.put o.dst undef) W') : wpList P ops Q (o :: rest) a w := wpList_plain hgd fun K hK => by
  have hr : (execOp a.eval o).run P w = .ok .skip (w.setCell ad (.bool b)) := by
    cases hq : P.info? ty with
    | none => simp [hq] at hi
    | some i =>
      have hs : i.size = 1 := by simpa [hq] using hi
      unfold execOp
      simp only [ho, hx, hy]
      simp [Instr.storeAt, Instr.sureAddr, storeVar, sizeOf, typeInfo, hq, hs, Value.cells, go_sem, hc, hf]
  unfold Oper.wp
  rw [hr]
  exact hK _ _ (h _ rfl)
theorem wpList_puts {P : Program} {ops : Array Oper} {rest : List Oper} {o : Oper} {a : Act} {w : World} {Q : Exit → Act → World → Prop} (hgd : o.guard = none) (ty : TypeId) (x y : Operand) (ho : o.op = .store ty x y) (ad : Addr) (hx : a.eval x = .pointer (some ad)) (g : Option Addr) (n cap : Nat) (hy : a.eval y = (.slice g n cap)) (hi : (P.info? ty).map (·.size) = some 1) (v : Value) (hc : w.cell? ad = some v) (hf : w.frozen? ad = false)
    (h : ∀ W', W' = w.setCell ad (.slice g n cap) → wpList P ops Q rest (a.put o.dst undef) W') : wpList P ops Q (o :: rest) a w := wpList_plain hgd fun K hK => by
  have hr : (execOp a.eval o).run P w = .ok .skip (w.setCell ad (.slice g n cap)) := by
    cases hq : P.info? ty with
    | none => simp [hq] at hi
    | some i =>
      have hs : i.size = 1 := by simpa [hq] using hi
      unfold execOp
      simp only [ho, hx, hy]
      simp [Instr.storeAt, Instr.sureAddr, storeVar, sizeOf, typeInfo, hq, hs, Value.cells, go_sem, hc, hf]
  unfold Oper.wp
  rw [hr]
  exact hK _ _ (h _ rfl)
end Go.Proofs.Ytdfnmlcpimiboaa.pg
