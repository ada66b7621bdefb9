/- A program that came in, opened: where its lists lie, and what lies there. -/
import Derived.Test.YtlcljdldhajkiaaDoorProg
import Derived.Test.YtlcljdldhajkiaaDoorM1
import Derived.WalkSpells
import Derived.Test.YtlcljdldhajkiaaDoorRows
import Derived.WalkKit
import Derived.ProofKit
import Derived.OpenShut
import Derived.WalkLawsBesides
import Derived.Lib.LaidTab
namespace Go.Proofs.YtlcljdldhajkiaaDoor.pg
open Go.ChangeShapes Go.WideShapes Go.ChangeAt Go.RowKit
set_option linter.unusedVariables false
section
variable {H : Type} {enc : TypeId × Value → H} {P : Program} {w : World} {base : Nat} {spare : Nat → Bool} {held : Bool}
theorem add_none (b off j : Nat) : (⟨b, off, none⟩ : Addr).add j = ⟨b, off + j, none⟩ := by
  by_cases hj : j = 0
  · subst hj; rfl
  · simp [Addr.add, hj]
/-- A list, opened: its elements' cells are as the elements' own readings tell. -/
theorem rows_in {α : Type} (dflt : α) {t e : TypeId} {k fuel : Nat} {a : Option Addr} {len cap : Nat} {x : DataW H × List MemPlace} (C : α → List Value) (Q : α → Prop) (ht : P.underlying t = some (.slice e)) (hk : P.cellsOf e = k) (hk0 : 0 < k)
    (hel : ∀ n cs y, cs.length = k → DataW.trod enc P w base spare held n e cs = some y → ∃ x, cs = C x ∧ Q x)
    (h : DataW.trod enc P w base spare held fuel t [.slice a len cap] = some x) : ∃ l : List α, l.length = len ∧ Rows w k a cap (l.map C) ∧ ∀ x ∈ l, Q x := by
  rcases Go.Deep.open_slice ht h with ⟨hcs, _⟩ | ⟨ad, len', cap', m, n, D, Pl, hcs, _, hl, hm, hmm, _, hx⟩
  · simp only [List.cons.injEq, Value.slice.injEq, and_true] at hcs
    obtain ⟨rfl, rfl, rfl⟩ := hcs
    exact ⟨[], rfl, ⟨by simp, by simp, by simp, .inl rfl⟩, by simp⟩
  · simp only [List.cons.injEq, Value.slice.injEq, and_true] at hcs
    obtain ⟨rfl, rfl, rfl⟩ := hcs
    unfold maxLen at hm
    have hlm : len ≤ m := by rw [hmm]; split <;> omega
    have each : ∀ i, i < len → ∃ y : α, Q y ∧ (C y).length = k ∧ ∀ j u, (C y)[j]? = some u → w.cell? (ad.add (i * k + j)) = some u := fun i hi => by
      obtain ⟨cs', h1, h2⟩ := hx i (by omega)
      rw [hk] at h1
      obtain ⟨_, hlen, hcell⟩ := World.cells?_some h1
      obtain ⟨y, rfl, hQ⟩ := hel n cs' _ hlen h2
      refine ⟨y, hQ, hlen, fun j u hj => ?_⟩
      have hjk : j < k := by have := (List.getElem?_eq_some_iff.mp hj).1; omega
      have := hcell j hjk
      rw [Go.Deep.add_add] at this
      rw [this, hj]
    have inh : Inhabited α := ⟨dflt⟩
    obtain ⟨f, hf⟩ := Go.Deep.choose_lt each
    refine ⟨(List.range len).map f, by simp, ⟨by simpa using hl, by omega, by simp, ?_⟩, fun y hy => ?_⟩
    · by_cases h0 : len = 0
      · subst h0; exact .inl rfl
      right
      obtain ⟨b, off, spot⟩ := ad
      obtain ⟨_, hl0, hc0⟩ := hf 0 (by omega)
      have hcell0 : w.cell? ((⟨b, off, spot⟩ : Addr).add (0 * k + 0)) = some ((C (f 0))[0]'(by omega)) := hc0 0 _ (List.getElem?_eq_getElem (by omega))
      have hs : spot = none := by simpa [Addr.add] using World.cell?_spot hcell0
      subst hs
      rw [add_none] at hcell0
      refine ⟨b, off, rfl, World.block_lt_of_cell? _ _ hcell0, fun i row hi => ?_⟩
      simp only [List.map_map, List.getElem?_map, Option.map_eq_some_iff] at hi
      obtain ⟨i', hi', rfl⟩ := hi
      have hil : i < len ∧ i' = i := by
        have h1 := (List.getElem?_eq_some_iff.mp hi').1
        have h2 := (List.getElem?_eq_some_iff.mp hi').2
        simp at h1 h2
        exact ⟨h1, h2.symm⟩
      obtain ⟨hil, rfl⟩ := hil
      obtain ⟨_, h1, h2⟩ := hf i' hil
      exact ⟨h1, fun j u hj => by rw [← add_none]; exact h2 j u hj⟩
    · simp only [List.mem_map, List.mem_range] at hy
      obtain ⟨i, hi, rfl⟩ := hy
      exact (hf i hi).1
theorem int_in {t : TypeId} (ht : P.underlying t = some (.int .i64)) {n : Nat} {v : Value} {y : DataW H × List MemPlace} (h : DataW.trod enc P w base spare held n t [v] = some y) : ∃ z, v = .int .i64 z ∧ I64 z := by
  obtain ⟨z, e, _, b⟩ := DataW.trod_int ht h
  simp only [List.cons.injEq, and_true] at e
  refine ⟨z, e, ?_⟩
  show _ ∧ _
  simpa [Lit.wf, IntKind.min, IntKind.max, IntKind.bits, IntKind.signed] using b
theorem bool_in {t : TypeId} (ht : P.underlying t = some .bool) {n : Nat} {v : Value} {y : DataW H × List MemPlace} (h : DataW.trod enc P w base spare held n t [v] = some y) : ∃ z, v = .bool z := by
  obtain ⟨z, e, _⟩ := DataW.trod_bool ht h
  simp only [List.cons.injEq, and_true] at e
  exact ⟨z, e⟩
theorem slice_in {t e : TypeId} (ht : P.underlying t = some (.slice e)) {n : Nat} {v : Value} {y : DataW H × List MemPlace} (h : DataW.trod enc P w base spare held n t [v] = some y) : ∃ a len cap, v = .slice a len cap := by
  rcases Go.Deep.open_slice ht h with ⟨hcs, _⟩ | ⟨ad, len', cap', m, n, D, Pl, hcs, _⟩
  · exact ⟨_, _, _, by simpa using hcs⟩
  · exact ⟨_, _, _, by simpa using hcs⟩
/-- A field of one cell. -/
theorem field_in {t : TypeId} {fs : Array Field} {fuel : Nat} {cs : List Value} {x : DataW H × List MemPlace} (ht : P.underlying t = some (.struct fs)) (h : DataW.trod enc P w base spare held fuel t cs = some x)
    (i : Nat) (f : Field) (hi : fs[i]? = some f) (ho : f.offset = i) (hc : P.cellsOf f.type = 1) (hl : i < cs.length) : ∃ v y n, cs[i]? = some v ∧ DataW.trod enc P w base spare held n f.type [v] = some y := by
  obtain ⟨xs, n, _, _, _, hlen, hf⟩ := DataW.trod_struct ht h
  have h1 := hf i f hi
  have hlt : i < xs.length := by rw [hlen]; exact (Array.getElem?_eq_some_iff.mp hi).1
  rw [ho, hc, List.getElem?_eq_getElem hlt] at h1
  refine ⟨cs[i], xs[i], n, List.getElem?_eq_getElem hl, ?_⟩
  rw [← h1]
  congr 1
  rw [List.drop_eq_getElem_cons hl]
  rfl
end
section
variable {H : Type} {enc : TypeId × Value → H} {w : World} {base : Nat} {spare : Nat → Bool} {held : Bool}
theorem list1 {α : Type} {cs : List α} (h : cs.length = 1) {a : α} (h0 : cs[0]? = some a) : cs = [a] := by
  match cs, h with
  | [_], _ => simp_all
theorem list2 {α : Type} {cs : List α} (h : cs.length = 2) {a b : α} (h0 : cs[0]? = some a) (h1 : cs[1]? = some b) : cs = [a, b] := by
  match cs, h with
  | [_, _], _ => simp_all
theorem list4 {α : Type} {cs : List α} (h : cs.length = 4) {a b c d : α} (h0 : cs[0]? = some a) (h1 : cs[1]? = some b) (h2 : cs[2]? = some c) (h3 : cs[3]? = some d) : cs = [a, b, c, d] := by
  match cs, h with
  | [_, _, _, _], _ => simp_all
theorem list5 {α : Type} {cs : List α} (h : cs.length = 5) {a b c d e : α} (h0 : cs[0]? = some a) (h1 : cs[1]? = some b) (h2 : cs[2]? = some c) (h3 : cs[3]? = some d) (h4 : cs[4]? = some e) : cs = [a, b, c, d, e] := by
  match cs, h with
  | [_, _, _, _, _], _ => simp_all
theorem ins_in {n : Nat} {cs : List Value} {y : DataW H × List MemPlace} (hl : cs.length = 5) (h : DataW.trod enc Tryd.prog w base spare held n 70 cs = some y) : ∃ x : Ins, cs = x.cells ∧ x.wf := by
  obtain ⟨v0, _, _, e0, t0⟩ := field_in Tryd.underlying70 h 0 _ rfl rfl (by kernel_rfl) (by omega)
  obtain ⟨v1, _, _, e1, t1⟩ := field_in Tryd.underlying70 h 1 _ rfl rfl (by kernel_rfl) (by omega)
  obtain ⟨v2, _, _, e2, t2⟩ := field_in Tryd.underlying70 h 2 _ rfl rfl (by kernel_rfl) (by omega)
  obtain ⟨v3, _, _, e3, t3⟩ := field_in Tryd.underlying70 h 3 _ rfl rfl (by kernel_rfl) (by omega)
  obtain ⟨v4, _, _, e4, t4⟩ := field_in Tryd.underlying70 h 4 _ rfl rfl (by kernel_rfl) (by omega)
  obtain ⟨z0, rfl, b0⟩ := int_in Tryd.underlying68 t0
  obtain ⟨z1, rfl, b1⟩ := int_in Tryd.underlying3 t1
  obtain ⟨z2, rfl, b2⟩ := int_in Tryd.underlying3 t2
  obtain ⟨z3, rfl, b3⟩ := int_in Tryd.underlying3 t3
  obtain ⟨z4, rfl, b4⟩ := int_in Tryd.underlying2 t4
  exact ⟨⟨z0, z1, z2, z3, z4⟩, list5 hl e0 e1 e2 e3 e4, b0, b1, b2, b3, b4⟩
theorem cas_in {n : Nat} {cs : List Value} {y : DataW H × List MemPlace} (hl : cs.length = 4) (h : DataW.trod enc Tryd.prog w base spare held n 78 cs = some y) : ∃ x : Cas, cs = x.cells ∧ x.wf := by
  obtain ⟨v0, _, _, e0, t0⟩ := field_in Tryd.underlying78 h 0 _ rfl rfl (by kernel_rfl) (by omega)
  obtain ⟨v1, _, _, e1, t1⟩ := field_in Tryd.underlying78 h 1 _ rfl rfl (by kernel_rfl) (by omega)
  obtain ⟨v2, _, _, e2, t2⟩ := field_in Tryd.underlying78 h 2 _ rfl rfl (by kernel_rfl) (by omega)
  obtain ⟨v3, _, _, e3, t3⟩ := field_in Tryd.underlying78 h 3 _ rfl rfl (by kernel_rfl) (by omega)
  obtain ⟨z0, rfl⟩ := bool_in Tryd.underlying4 t0
  obtain ⟨z1, rfl, b1⟩ := int_in Tryd.underlying3 t1
  obtain ⟨z2, rfl, b2⟩ := int_in Tryd.underlying3 t2
  obtain ⟨z3, rfl, b3⟩ := int_in Tryd.underlying3 t3
  exact ⟨⟨z0, z1, z2, z3⟩, list4 hl e0 e1 e2 e3, b1, b2, b3⟩
theorem vr_in {n : Nat} {cs : List Value} {y : DataW H × List MemPlace} (hl : cs.length = 2) (h : DataW.trod enc Tryd.prog w base spare held n 122 cs = some y) : ∃ x : Vr, cs = x.cells ∧ I64 x.init := by
  obtain ⟨v0, _, _, e0, t0⟩ := field_in Tryd.underlying122 h 0 _ rfl rfl (by kernel_rfl) (by omega)
  obtain ⟨v1, _, _, e1, t1⟩ := field_in Tryd.underlying122 h 1 _ rfl rfl (by kernel_rfl) (by omega)
  obtain ⟨z0, rfl⟩ := bool_in Tryd.underlying4 t0
  obtain ⟨z1, rfl, b1⟩ := int_in Tryd.underlying2 t1
  exact ⟨⟨z0, z1⟩, list2 hl e0 e1, b1⟩
theorem sel_in {n : Nat} {cs : List Value} {y : DataW H × List MemPlace} (hl : cs.length = 2) (h : DataW.trod enc Tryd.prog w base spare held n 76 cs = some y) : ∃ x : MSel, cs = x.cells ∧ x.lies w := by
  obtain ⟨v0, _, _, e0, t0⟩ := field_in Tryd.underlying76 h 0 _ rfl rfl (by kernel_rfl) (by omega)
  obtain ⟨v1, _, _, e1, t1⟩ := field_in Tryd.underlying76 h 1 _ rfl rfl (by kernel_rfl) (by omega)
  obtain ⟨a, len, cap, rfl⟩ := slice_in Tryd.underlying74 t0
  obtain ⟨z1, rfl, b1⟩ := int_in Tryd.underlying3 t1
  obtain ⟨l, rfl, hr, hq⟩ := rows_in (k := 4) ⟨false, 0, 0, 0⟩ Cas.cells Cas.wf Tryd.underlying74 (by kernel_rfl) (by omega) (fun n cs y hl h => cas_in hl h) t0
  exact ⟨⟨a, cap, l, z1⟩, list2 hl e0 e1, hr, hq, b1⟩
theorem fn_in {n : Nat} {cs : List Value} {y : DataW H × List MemPlace} (hl : cs.length = 4) (h : DataW.trod enc Tryd.prog w base spare held n 62 cs = some y) : ∃ x : MFn, cs = x.cells ∧ x.lies w := by
  obtain ⟨v0, _, _, e0, t0⟩ := field_in Tryd.underlying62 h 0 _ rfl rfl (by kernel_rfl) (by omega)
  obtain ⟨v1, _, _, e1, t1⟩ := field_in Tryd.underlying62 h 1 _ rfl rfl (by kernel_rfl) (by omega)
  obtain ⟨v2, _, _, e2, t2⟩ := field_in Tryd.underlying62 h 2 _ rfl rfl (by kernel_rfl) (by omega)
  obtain ⟨v3, _, _, e3, t3⟩ := field_in Tryd.underlying62 h 3 _ rfl rfl (by kernel_rfl) (by omega)
  obtain ⟨z0, rfl, b0⟩ := int_in Tryd.underlying3 t0
  obtain ⟨z1, rfl, b1⟩ := int_in Tryd.underlying3 t1
  obtain ⟨a2, len2, cap2, rfl⟩ := slice_in Tryd.underlying59 t2
  obtain ⟨a3, len3, cap3, rfl⟩ := slice_in Tryd.underlying60 t3
  obtain ⟨l2, rfl, hr2, hq2⟩ := rows_in (k := 5) ⟨0, 0, 0, 0, 0⟩ Ins.cells Ins.wf Tryd.underlying59 (by kernel_rfl) (by omega) (fun n cs y hl h => ins_in hl h) t2
  obtain ⟨l3, rfl, hr3, hq3⟩ := rows_in (k := 2) ⟨none, 0, [], 0⟩ MSel.cells (MSel.lies w) Tryd.underlying60 (by kernel_rfl) (by omega) (fun n cs y hl h => sel_in hl h) t3
  exact ⟨⟨z0, z1, a2, cap2, l2, a3, cap3, l3⟩, list4 hl e0 e1 e2 e3, hr2, hr3, hq2, hq3, b0, b1⟩
/-- A program, opened. -/
theorem prog_in {n : Nat} {cs : List Value} {y : DataW H × List MemPlace} (h : DataW.trod enc Tryd.prog w base spare held n 26 cs = some y) : ∃ x : MPr, Value.agg cs.toArray = x.val ∧ x.lies w := by
  have hl : cs.length = 4 := by
    obtain ⟨xs, n, _, _, hl, _⟩ := DataW.trod_struct Tryd.underlying26 h
    rw [hl]
    kernel_rfl
  obtain ⟨v0, _, _, e0, t0⟩ := field_in Tryd.underlying26 h 0 _ rfl rfl (by kernel_rfl) (by omega)
  obtain ⟨v1, _, _, e1, t1⟩ := field_in Tryd.underlying26 h 1 _ rfl rfl (by kernel_rfl) (by omega)
  obtain ⟨v2, _, _, e2, t2⟩ := field_in Tryd.underlying26 h 2 _ rfl rfl (by kernel_rfl) (by omega)
  obtain ⟨v3, _, _, e3, t3⟩ := field_in Tryd.underlying26 h 3 _ rfl rfl (by kernel_rfl) (by omega)
  obtain ⟨z1, rfl, b1⟩ := int_in Tryd.underlying3 t1
  obtain ⟨a0, len0, cap0, rfl⟩ := slice_in Tryd.underlying22 t0
  obtain ⟨a2, len2, cap2, rfl⟩ := slice_in Tryd.underlying23 t2
  obtain ⟨a3, len3, cap3, rfl⟩ := slice_in Tryd.underlying24 t3
  obtain ⟨l0, rfl, hr0, hq0⟩ := rows_in (k := 2) ⟨false, 0⟩ Vr.cells (fun x => I64 x.init) Tryd.underlying22 (by kernel_rfl) (by omega) (fun n cs y hl h => vr_in hl h) t0
  obtain ⟨l2, rfl, hr2, hq2⟩ := rows_in (k := 1) 0 chCells I64 Tryd.underlying23 (by kernel_rfl) (by omega) (fun n cs y hl h => by
    obtain ⟨v, rfl⟩ := List.length_eq_one_iff.mp hl
    obtain ⟨z, rfl, hz⟩ := int_in Tryd.underlying3 h
    exact ⟨z, rfl, hz⟩) t2
  obtain ⟨l3, rfl, hr3, hq3⟩ := rows_in (k := 4) ⟨0, 0, none, 0, [], none, 0, []⟩ MFn.cells (MFn.lies w) Tryd.underlying24 (by kernel_rfl) (by omega) (fun n cs y hl h => fn_in hl h) t3
  refine ⟨⟨a0, cap0, l0, z1, a2, cap2, l2, a3, cap3, l3⟩, ?_, hr0, hr2, hr3, hq0, b1, hq2, hq3⟩
  rw [list4 hl e0 e1 e2 e3]
end
end Go.Proofs.YtlcljdldhajkiaaDoor.pg
/- Elements of a program's lists: what an index gives, and the cells there. -/
namespace Go.Proofs.YtlcljdldhajkiaaDoor.pg
open Go.ChangeShapes Go.WideShapes Go.ChangeAt Go.RowKit
set_option linter.unusedVariables false
theorem Rows.ix {w : World} {k : Nat} {a : Option Addr} {cap : Nat} {L : List (List Value)} (h : Rows w k a cap L) (t e : TypeId) (hu : Tryd.prog.underlying t = some (.slice e)) (he : Tryd.prog.elem t = e) (hs : ∀ wx, (sizeOf e).run Tryd.prog wx = .ok k wx)
    (i : Nat) {row : List Value} (hi : L[i]? = some row) :
    ∃ b o, (∀ wx, (Instr.indexAt t (.slice a L.length cap) (.int .i64 (i : Int))).run Tryd.prog wx = .ok (.pointer (some ⟨b, o, none⟩)) wx) ∧ b < w.heap.size ∧ ∀ j u, row[j]? = some u → w.cell? ⟨b, o + j, none⟩ = some u := by
  obtain ⟨b, off, ha, hlt, hc⟩ := h.row hi
  have hil : i < L.length := (List.getElem?_eq_some_iff.mp hi).1
  refine ⟨b, off + i * k, fun wx => ?_, hlt, fun j u hj => by rw [Nat.add_assoc]; exact hc j u hj⟩
  subst he
  rw [ha, run_indexAt_slice wx t ⟨b, off, none⟩ _ _ _ _ hu, if_pos (by omega), hs wx]
  simp only [Int.toNat_natCast]
  show Result.ok (Value.pointer (some ((⟨b, off, none⟩ : Addr).add (i * k)))) wx = _
  rw [add_none]
theorem ins_ix {w : World} {a : Option Addr} {cap : Nat} {l : List Ins} (h : Rows w 5 a cap (l.map Ins.cells)) (i : Nat) (x : Ins) (hi : l[i]? = some x) :
    ∃ b o, (∀ wx, (Instr.indexAt 59 (.slice a l.length cap) (.int .i64 (i : Int))).run Tryd.prog wx = .ok (.pointer (some ⟨b, o, none⟩)) wx) ∧ b < w.heap.size ∧ w.cell? ⟨b, o, none⟩ = some (.int .i64 x.op) ∧ w.cell? ⟨b, o + 1, none⟩ = some (.int .i64 x.a) ∧ w.cell? ⟨b, o + 2, none⟩ = some (.int .i64 x.b) ∧ w.cell? ⟨b, o + 3, none⟩ = some (.int .i64 x.c) ∧ w.cell? ⟨b, o + 4, none⟩ = some (.int .i64 x.n) := by
  obtain ⟨b, o, hr, hlt, hc⟩ := h.ix 59 70 Tryd.underlying59 (by kernel_rfl) (fun wx => Tryd.sizeOf70 wx) i (row := x.cells) (by simp [hi])
  rw [List.length_map] at hr
  exact ⟨b, o, hr, hlt, hc 0 _ rfl, hc 1 _ rfl, hc 2 _ rfl, hc 3 _ rfl, hc 4 _ rfl⟩
theorem cas_ix {w : World} {a : Option Addr} {cap : Nat} {l : List Cas} (h : Rows w 4 a cap (l.map Cas.cells)) (i : Nat) (x : Cas) (hi : l[i]? = some x) :
    ∃ b o, (∀ wx, (Instr.indexAt 74 (.slice a l.length cap) (.int .i64 (i : Int))).run Tryd.prog wx = .ok (.pointer (some ⟨b, o, none⟩)) wx) ∧ b < w.heap.size ∧ w.cell? ⟨b, o, none⟩ = some (.bool x.send) ∧ w.cell? ⟨b, o + 1, none⟩ = some (.int .i64 x.ch) ∧ w.cell? ⟨b, o + 2, none⟩ = some (.int .i64 x.reg) ∧ w.cell? ⟨b, o + 3, none⟩ = some (.int .i64 x.to) := by
  obtain ⟨b, o, hr, hlt, hc⟩ := h.ix 74 78 Tryd.underlying74 (by kernel_rfl) (fun wx => Tryd.sizeOf78 wx) i (row := x.cells) (by simp [hi])
  rw [List.length_map] at hr
  exact ⟨b, o, hr, hlt, hc 0 _ rfl, hc 1 _ rfl, hc 2 _ rfl, hc 3 _ rfl⟩
theorem sel_ix {w : World} {a : Option Addr} {cap : Nat} {l : List MSel} (h : Rows w 2 a cap (l.map MSel.cells)) (i : Nat) (x : MSel) (hi : l[i]? = some x) :
    ∃ b o, (∀ wx, (Instr.indexAt 60 (.slice a l.length cap) (.int .i64 (i : Int))).run Tryd.prog wx = .ok (.pointer (some ⟨b, o, none⟩)) wx) ∧ b < w.heap.size ∧ w.cell? ⟨b, o, none⟩ = some (.slice x.at_ x.cases.length x.cap) ∧ w.cell? ⟨b, o + 1, none⟩ = some (.int .i64 x.els) := by
  obtain ⟨b, o, hr, hlt, hc⟩ := h.ix 60 76 Tryd.underlying60 (by kernel_rfl) (fun wx => Tryd.sizeOf76 wx) i (row := x.cells) (by simp [hi])
  rw [List.length_map] at hr
  exact ⟨b, o, hr, hlt, hc 0 _ rfl, hc 1 _ rfl⟩
theorem vr_ix {w : World} {a : Option Addr} {cap : Nat} {l : List Vr} (h : Rows w 2 a cap (l.map Vr.cells)) (i : Nat) (x : Vr) (hi : l[i]? = some x) :
    ∃ b o, (∀ wx, (Instr.indexAt 22 (.slice a l.length cap) (.int .i64 (i : Int))).run Tryd.prog wx = .ok (.pointer (some ⟨b, o, none⟩)) wx) ∧ b < w.heap.size ∧ w.cell? ⟨b, o, none⟩ = some (.bool x.atomic) ∧ w.cell? ⟨b, o + 1, none⟩ = some (.int .i64 x.init) := by
  obtain ⟨b, o, hr, hlt, hc⟩ := h.ix 22 122 Tryd.underlying22 (by kernel_rfl) (fun wx => Tryd.sizeOf122 wx) i (row := x.cells) (by simp [hi])
  rw [List.length_map] at hr
  exact ⟨b, o, hr, hlt, hc 0 _ rfl, hc 1 _ rfl⟩
theorem ch_ix {w : World} {a : Option Addr} {cap : Nat} {l : List Int} (h : Rows w 1 a cap (l.map chCells)) (i : Nat) (x : Int) (hi : l[i]? = some x) :
    ∃ b o, (∀ wx, (Instr.indexAt 23 (.slice a l.length cap) (.int .i64 (i : Int))).run Tryd.prog wx = .ok (.pointer (some ⟨b, o, none⟩)) wx) ∧ b < w.heap.size ∧ w.cell? ⟨b, o, none⟩ = some (.int .i64 x) := by
  obtain ⟨b, o, hr, hlt, hc⟩ := h.ix 23 3 Tryd.underlying23 (by kernel_rfl) (fun wx => Tryd.sizeOf3 wx) i (row := chCells x) (by simp [hi])
  rw [List.length_map] at hr
  exact ⟨b, o, hr, hlt, hc 0 _ rfl⟩
theorem fn_ix {w : World} {a : Option Addr} {cap : Nat} {l : List MFn} (h : Rows w 4 a cap (l.map MFn.cells)) (i : Nat) (x : MFn) (hi : l[i]? = some x) :
    ∃ b o, (∀ wx, (Instr.indexAt 24 (.slice a l.length cap) (.int .i64 (i : Int))).run Tryd.prog wx = .ok (.pointer (some ⟨b, o, none⟩)) wx) ∧ b < w.heap.size ∧ w.cell? ⟨b, o, none⟩ = some (.int .i64 x.params) ∧ w.cell? ⟨b, o + 1, none⟩ = some (.int .i64 x.regs) ∧ w.cell? ⟨b, o + 2, none⟩ = some (.slice x.ca x.code.length x.ccap) ∧ w.cell? ⟨b, o + 3, none⟩ = some (.slice x.sa x.sels.length x.scap) := by
  obtain ⟨b, o, hr, hlt, hc⟩ := h.ix 24 62 Tryd.underlying24 (by kernel_rfl) (fun wx => Tryd.sizeOf62 wx) i (row := x.cells) (by simp [hi])
  rw [List.length_map] at hr
  exact ⟨b, o, hr, hlt, hc 0 _ rfl, hc 1 _ rfl, hc 2 _ rfl, hc 3 _ rfl⟩
end Go.Proofs.YtlcljdldhajkiaaDoor.pg
/- The table of forms that package prog lays, as its row lists it; the contracts of prog.Form, Local, Visible, word.Arity and the document's own. -/
namespace Go.Proofs.YtlcljdldhajkiaaDoor.prog
open Go.ChangeShapes Go.WideShapes Go.ChangeAt Go.RowKit
set_option linter.unusedVariables false
theorem cells_of_strs {H : Type} {enc : TypeId × Value → H} {P : Program} {w : World} {base : Nat} {sp : Nat → Bool} {held : Bool} {fuel : Nat} {t e : TypeId} {n : Nat} {cs : List Value} {ss : List (List UInt8)} {p : List MemPlace}
    (ht : P.underlying t = some (.array n e)) (he : P.underlying e = some .string) (hce : P.cellsOf e = 1) (hct : P.cellsOf t = n)
    (h : DataW.trod enc P w base sp held fuel t cs = some (.agg (ss.map fun s => .lit (.string s)), p)) : cs = ss.map fun s => Value.string ⟨s.toArray⟩ := by
  cases fuel with
  | zero => simp [DataW.trod] at h
  | succ fuel =>
    simp only [DataW.trod, ht, hce, hct, Nat.mul_one] at h
    split at h
    · rename_i hl
      obtain ⟨xs, hm, hx⟩ := Option.map_eq_some_iff.1 h
      have hxs : xs.map (·.1) = ss.map fun s => (DataW.lit (.string s) : DataW H) := by
        have := congrArg Prod.fst hx
        simpa using this
      have hxl : xs.length = n := by simpa using Lib.mapM_length hm
      have hzl : ss.length = n := by
        have := congrArg List.length hxs
        simp at this
        omega
      apply List.ext_getElem?
      intro i
      by_cases hi : i < n
      · obtain ⟨b, hb, hf⟩ := Lib.mapM_at hm i i (by simp [hi])
        obtain ⟨z, hc, rfl, _⟩ := DataW.trod_string he hf
        have h1 : cs[i]? = some (.string z) := by
          have := congrArg (·[0]?) hc
          simpa [List.getElem?_take, List.getElem?_drop] using this
        have h2 : (xs.map (·.1))[i]? = some (DataW.lit (.string z.data.toList) : DataW H) := by simp [hb]
        rw [hxs] at h2
        simp only [List.getElem?_map, Option.map_eq_some_iff, DataW.lit.injEq, Lit.string.injEq] at h2
        obtain ⟨z', hz', rfl⟩ := h2
        simp [h1, hz']
      · rw [List.getElem?_eq_none (by omega), List.getElem?_eq_none (by simp; omega)]
    · cases h
/-- The forms, at each operation's number. -/
def tab : List (List UInt8) := [[], [], [], [], [], [], [], [], [], [], [], [], [], [], [], [], [], [], [], [], [], [], [], [], [], [], [], [], [], [], [], [], [], [], [], [], [], [], [], [], [114, 45, 45, 110], [114, 114, 45, 45], [116, 45, 45, 45], [114, 116, 45, 45], [114, 45, 45, 110], [45, 45, 45, 45], [], [], [], [], [114, 118, 45, 45], [118, 114, 45, 45], [111, 97, 114, 45], [114, 97, 114, 119], [97, 114, 45, 45], [108, 45, 45, 45], [108, 45, 45, 45], [114, 108, 45, 45], [99, 114, 45, 45], [111, 99, 111, 45], [99, 45, 45, 45], [115, 45, 45, 45], [111, 102, 112, 45], [114, 45, 45, 45], [45, 45, 45, 45], [114, 45, 45, 110]]
/-- The variable holds the table. -/
def Forms (w : World) : Prop := ∀ i, i < 66 → w.cell? ⟨0, i, none⟩ = some (.string ⟨(tab.getD i []).toArray⟩)
theorem Forms.later {w w' : World} (h : Forms w) (hb : Below w.heap.size w w') : Forms w' := fun i hi => cell_later hb (h i hi)
theorem gForms : Tryd.prog.globalNamed "scarab/prog.forms" = some 0 := by kernel_rfl
theorem forms_of {rest : List (String × DataW Unit)} {W : World} {t : TypeId} (hty : (Tryd.prog.globals[0]?).map (·.type) = some t) (ht : Tryd.prog.underlying t = some (.array 66 9)) (hct : Tryd.prog.cellsOf t = 66)
    (h : laidMet Tryd.prog (("scarab/prog.forms", .agg (tab.map fun s => .lit (.string s))) :: rest) W) : Forms W := by
  obtain ⟨ps, ⟨g', t', cs, fuel, p, q, hg', ht', hvar, hd, _, _⟩, _⟩ := h
  obtain rfl := Option.some.inj (gForms.symm.trans hg')
  obtain rfl := Option.some.inj (hty.symm.trans ht')
  have hcs := cells_of_strs ht Tryd.underlying9 (by kernel_rfl) hct hd
  intro i hi
  have := World.var?_cell gForms hvar i
  rw [this, ← Array.getElem?_toList, hcs]
  have hl : i < tab.length := hi
  simp [hl, List.getD]
/-- The form of an operation. -/
def frm (op : Int) : ByteArray := if op < 0 then ⟨#[]⟩ else if 1 ≤ op ∧ op ≤ 15 then ⟨#[114, 114, 45, 45]⟩ else if 16 ≤ op ∧ op ≤ 36 then ⟨#[114, 114, 114, 45]⟩ else if op < 66 then ⟨(tab.getD op.toNat []).toArray⟩ else ⟨#[]⟩
theorem arity_any (op : Int) (h1 : -9223372036854775808 ≤ op) (h2 : op ≤ 9223372036854775807) (w : World) (r : Int) (hr : (if 1 ≤ op ∧ op ≤ 15 then 1 else if 16 ≤ op ∧ op ≤ 36 then 2 else 0 : Int) = r) :
    Calls Tryd.prog 71 #[.int .i64 op] w fun e w' => e = .returned (.int .i64 r) ∧ w' = w := by
  by_cases ha : 1 ≤ op ∧ op ≤ 15
  · rw [if_pos ha] at hr; subst hr
    obtain ⟨ha, hb⟩ := ha
    go_enter Tryd.func71, Tryd.ntmps71
    go_wp2
    go_ret
    exact ⟨rfl, rfl⟩
  · rw [if_neg ha] at hr
    by_cases hb : 16 ≤ op ∧ op ≤ 36
    · rw [if_pos hb] at hr; subst hr
      obtain ⟨hb, hc⟩ := hb
      clear ha
      go_enter Tryd.func71, Tryd.ntmps71
      go_wp2
      go_ret
      exact ⟨rfl, rfl⟩
    · rw [if_neg hb] at hr; subst hr
      by_cases h0 : op < 1
      · clear ha hb
        go_enter Tryd.func71, Tryd.ntmps71
        go_wp2
        go_ret
        exact ⟨rfl, rfl⟩
      · have h3 : 36 < op := by omega
        clear ha hb
        go_enter Tryd.func71, Tryd.ntmps71
        go_wp2
        go_ret
        exact ⟨rfl, rfl⟩
theorem form_any (op : Int) (h1 : -9223372036854775808 ≤ op) (h2 : op ≤ 9223372036854775807) (w : World) (hF : Forms w) (B : ByteArray) (hB : frm op = B) :
    Calls Tryd.prog 62 #[.int .i64 op] w fun e w' => e = .returned (.string B) ∧ w' = w := by
  have cA := fun w => arity_any op h1 h2 w _ rfl
  unfold frm at hB
  by_cases ha : 1 ≤ op ∧ op ≤ 15
  · rw [if_neg (by omega), if_pos ha] at hB; subst hB
    simp only [if_pos ha] at cA
    clear hF
    go_enter Tryd.func62, Tryd.ntmps62
    go_wp2_with (go_at_call 71; with_reducible refine (cA _).mono ?_; rintro e w' ⟨rfl, hw⟩; replace hw := hw.symm; subst hw)
    go_ret
    exact ⟨rfl, rfl⟩
  · simp only [if_neg ha] at cA
    rw [if_neg ha] at hB
    by_cases hb : 16 ≤ op ∧ op ≤ 36
    · rw [if_neg (by omega), if_pos hb] at hB; subst hB
      simp only [if_pos hb] at cA
      clear hF
      go_enter Tryd.func62, Tryd.ntmps62
      go_wp2_with (go_at_call 71; with_reducible refine (cA _).mono ?_; rintro e w' ⟨rfl, hw⟩; replace hw := hw.symm; subst hw)
      go_ret
      exact ⟨rfl, rfl⟩
    · simp only [if_neg hb] at cA
      rw [if_neg hb] at hB
      by_cases hc : op < 0
      · rw [if_pos hc] at hB; subst hB
        clear hF ha hb
        go_enter Tryd.func62, Tryd.ntmps62
        go_wp2_with (go_at_call 71; with_reducible refine (cA _).mono ?_; rintro e w' ⟨rfl, hw⟩; replace hw := hw.symm; subst hw)
        go_ret
        exact ⟨rfl, rfl⟩
      · rw [if_neg hc] at hB
        by_cases hd : op < 66
        · rw [if_pos hd] at hB; subst hB
          have hcell := hF op.toNat (by omega)
          have h0 : 0 ≤ op := by omega
          generalize (⟨(tab.getD op.toNat []).toArray⟩ : ByteArray) = B at *
          clear hF ha hb hc
          go_enter Tryd.func62, Tryd.ntmps62
          go_wp2_with (go_at_call 71; with_reducible refine (cA _).mono ?_; rintro e w' ⟨rfl, hw⟩; replace hw := hw.symm; subst hw)
          go_ret
          exact ⟨rfl, rfl⟩
        · rw [if_neg hd] at hB; subst hB
          have h0 : 66 ≤ op := by omega
          clear hF ha hb hc hd
          go_enter Tryd.func62, Tryd.ntmps62
          go_wp2_with (go_at_call 71; with_reducible refine (cA _).mono ?_; rintro e w' ⟨rfl, hw⟩; replace hw := hw.symm; subst hw)
          go_ret
          exact ⟨rfl, rfl⟩
set_option maxHeartbeats 4000000 in
theorem refform_any (op : Int) (h1 : -9223372036854775808 ≤ op) (h2 : op ≤ 9223372036854775807) (w : World) (B : ByteArray) (hB : frm op = B) :
    Calls Tryd.prog 65 #[.int .i64 op] w fun e w' => e = .returned (.string B) ∧ w' = w := by
  by_cases ha : 1 ≤ op ∧ op ≤ 15
  · unfold frm at hB
    rw [if_neg (by omega), if_pos ha] at hB; subst hB
    obtain ⟨ha, hb⟩ := ha
    go_enter Tryd.func65, Tryd.ntmps65
    go_wp2
    go_ret
    exact ⟨rfl, rfl⟩
  · by_cases hb : 16 ≤ op ∧ op ≤ 36
    · unfold frm at hB
      rw [if_neg (by omega), if_neg ha, if_pos hb] at hB; subst hB
      obtain ⟨hb, hc⟩ := hb
      clear ha
      go_enter Tryd.func65, Tryd.ntmps65
      go_wp2
      go_ret
      exact ⟨rfl, rfl⟩
    · by_cases hd : 37 ≤ op ∧ op ≤ 65
      · rcases (by omega : op = 37 ∨ op = 38 ∨ op = 39 ∨ op = 40 ∨ op = 41 ∨ op = 42 ∨ op = 43 ∨ op = 44 ∨ op = 45 ∨ op = 46 ∨ op = 47 ∨ op = 48 ∨ op = 49 ∨ op = 50 ∨ op = 51 ∨ op = 52 ∨ op = 53 ∨ op = 54 ∨ op = 55 ∨ op = 56 ∨ op = 57 ∨ op = 58 ∨ op = 59 ∨ op = 60 ∨ op = 61 ∨ op = 62 ∨ op = 63 ∨ op = 64 ∨ op = 65) with rfl | rfl | rfl | rfl | rfl | rfl | rfl | rfl | rfl | rfl | rfl | rfl | rfl | rfl | rfl | rfl | rfl | rfl | rfl | rfl | rfl | rfl | rfl | rfl | rfl | rfl | rfl | rfl | rfl
        all_goals
          subst hB
          clear ha hb hd h1 h2
          go_enter Tryd.func65, Tryd.ntmps65
          go_wp2
          go_ret
          exact ⟨rfl, rfl⟩
      · have hB2 : (⟨#[]⟩ : ByteArray) = B := by
          rw [← hB]; unfold frm
          by_cases h0 : op < 0
          · rw [if_pos h0]
          · rw [if_neg h0, if_neg ha, if_neg hb]
            by_cases h6 : op < 66
            · have : op = 0 := by omega
              subst this; rfl
            · rw [if_neg h6]
        subst hB2
        by_cases h0 : op < 1
        · clear ha hb hd hB
          go_enter Tryd.func65, Tryd.ntmps65
          go_wp2
          go_ret
          exact ⟨rfl, rfl⟩
        · have h3 : 65 < op := by omega
          clear ha hb hd hB h0
          go_enter Tryd.func65, Tryd.ntmps65
          go_wp2
          go_ret
          exact ⟨rfl, rfl⟩
/-- Local, visible. -/
def loc (op : Int) : Bool := decide ((1 ≤ op ∧ op ≤ 36) ∨ (40 ≤ op ∧ op ≤ 45))
def vis (op : Int) : Bool := decide (50 ≤ op ∧ op ≤ 65)
theorem frm_empty (op : Int) : ((frm op).toList == []) = !(loc op || vis op) := by
  by_cases hd : 37 ≤ op ∧ op ≤ 65
  · rcases (by omega : op = 37 ∨ op = 38 ∨ op = 39 ∨ op = 40 ∨ op = 41 ∨ op = 42 ∨ op = 43 ∨ op = 44 ∨ op = 45 ∨ op = 46 ∨ op = 47 ∨ op = 48 ∨ op = 49 ∨ op = 50 ∨ op = 51 ∨ op = 52 ∨ op = 53 ∨ op = 54 ∨ op = 55 ∨ op = 56 ∨ op = 57 ∨ op = 58 ∨ op = 59 ∨ op = 60 ∨ op = 61 ∨ op = 62 ∨ op = 63 ∨ op = 64 ∨ op = 65) with rfl | rfl | rfl | rfl | rfl | rfl | rfl | rfl | rfl | rfl | rfl | rfl | rfl | rfl | rfl | rfl | rfl | rfl | rfl | rfl | rfl | rfl | rfl | rfl | rfl | rfl | rfl | rfl | rfl <;> rw [ByteArray.toList_eq] <;> rfl
  · by_cases ha : 1 ≤ op ∧ op ≤ 15
    · unfold frm loc; rw [if_neg (by omega), if_pos ha, decide_eq_true (by omega), ByteArray.toList_eq]; rfl
    · by_cases hb : 16 ≤ op ∧ op ≤ 36
      · unfold frm loc; rw [if_neg (by omega), if_neg ha, if_pos hb, decide_eq_true (by omega), ByteArray.toList_eq]; rfl
      · have e : frm op = ⟨#[]⟩ := by
          unfold frm
          by_cases h0 : op < 0
          · rw [if_pos h0]
          · rw [if_neg h0, if_neg ha, if_neg hb]
            by_cases h6 : op < 66
            · have : op = 0 := by omega
              subst this; rfl
            · rw [if_neg h6]
        unfold loc vis
        rw [e, decide_eq_false (by omega), decide_eq_false (by omega), ByteArray.toList_eq]; rfl
theorem ret_bool {a b : Bool} (h : a = b) : Ending.returned (.bool a) = .returned (.bool b) := by rw [h]
theorem local_any (op : Int) (h1 : -9223372036854775808 ≤ op) (h2 : op ≤ 9223372036854775807) (w : World) (hF : Forms w) (r : Bool) (hr : loc op = r) :
    Calls Tryd.prog 53 #[.int .i64 op] w fun e w' => e = .returned (.bool r) ∧ w' = w := by
  have cF := fun w hF => form_any op h1 h2 w hF _ rfl
  replace cF := cF w hF
  have he := frm_empty op
  generalize frm op = B at *
  subst hr
  by_cases hl : (1 ≤ op ∧ op ≤ 36) ∨ (40 ≤ op ∧ op ≤ 45)
  · have hl2 : loc op = true := decide_eq_true hl
    rw [hl2] at he ⊢
    have he' : (B.toList == []) = false := he
    have h45 : op ≤ 45 := by omega
    clear he hl hl2 hF
    go_enter Tryd.func53, Tryd.ntmps53
    go_wp2_with (go_at_call 62; with_reducible refine cF.mono ?_; rintro e w' ⟨rfl, hw⟩; replace hw := hw.symm; subst hw)
    go_ret
    exact ⟨ret_bool (by first | rfl | (simp <;> omega)), rfl⟩
  · have hl2 : loc op = false := decide_eq_false hl
    rw [hl2] at he ⊢
    by_cases hv : 50 ≤ op ∧ op ≤ 65
    · have hv2 : vis op = true := decide_eq_true hv
      rw [hv2] at he
      have he' : (B.toList == []) = false := he
      have h45 : 45 < op := by omega
      clear he hl hl2 hF hv hv2
      go_enter Tryd.func53, Tryd.ntmps53
      go_wp2_with (go_at_call 62; with_reducible refine cF.mono ?_; rintro e w' ⟨rfl, hw⟩; replace hw := hw.symm; subst hw)
      go_ret
      exact ⟨ret_bool (by first | rfl | (simp <;> omega)), rfl⟩
    · have hv2 : vis op = false := decide_eq_false hv
      rw [hv2] at he
      have he' : (B.toList == []) = true := he
      clear he hl hl2 hF hv hv2
      go_enter Tryd.func53, Tryd.ntmps53
      go_wp2_with (go_at_call 62; with_reducible refine cF.mono ?_; rintro e w' ⟨rfl, hw⟩; replace hw := hw.symm; subst hw)
      go_ret
      exact ⟨ret_bool (by first | rfl | (simp <;> omega)), rfl⟩
theorem reflocal_any (op : Int) (h1 : -9223372036854775808 ≤ op) (h2 : op ≤ 9223372036854775807) (w : World) (r : Bool) (hr : loc op = r) :
    Calls Tryd.prog 59 #[.int .i64 op] w fun e w' => e = .returned (.bool r) ∧ w' = w := by
  subst hr
  rcases (by omega : op < 1 ∨ (1 ≤ op ∧ op ≤ 36) ∨ (36 < op ∧ op < 40) ∨ (40 ≤ op ∧ op ≤ 45) ∨ 45 < op) with h | h | h | h | h
  all_goals
    first | rw [show loc op = true from decide_eq_true (by omega)] | rw [show loc op = false from decide_eq_false (by omega)]
    go_enter Tryd.func59, Tryd.ntmps59
    go_wp2
    go_ret
    exact ⟨ret_bool (by first | rfl | (simp <;> omega)), rfl⟩
theorem refvisible_any (op : Int) (h1 : -9223372036854775808 ≤ op) (h2 : op ≤ 9223372036854775807) (w : World) (r : Bool) (hr : vis op = r) :
    Calls Tryd.prog 64 #[.int .i64 op] w fun e w' => e = .returned (.bool r) ∧ w' = w := by
  subst hr
  rcases (by omega : op < 50 ∨ (50 ≤ op ∧ op ≤ 65) ∨ 65 < op) with h | h | h
  all_goals
    first | rw [show vis op = true from decide_eq_true (by omega)] | rw [show vis op = false from decide_eq_false (by omega)]
    go_enter Tryd.func64, Tryd.ntmps64
    go_wp2
    go_ret
    exact ⟨ret_bool (by first | rfl | (simp <;> omega)), rfl⟩
end Go.Proofs.YtlcljdldhajkiaaDoor.prog
