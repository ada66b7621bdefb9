/- A state that came in, opened; the argument that is a program, a state, a goroutine and fuel. -/
import Derived.Test.YtjcmhaaohdmjpaaDoorM1
import Derived.Test.YtjcmhaaohdmjpaaDoorM9
import Derived.Test.YtjcmhaaohdmjpaaDoorM8
namespace Go.Proofs.YtjcmhaaohdmjpaaDoor.pg
open Go.ChangeShapes Go.WideShapes Go.ChangeAt Go.RowKit
set_option linter.unusedVariables false
set_option linter.unusedSimpArgs false
set_option maxRecDepth 100000
section
variable {H : Type} {enc : TypeId × Value → H} {w : World} {base : Nat} {spare : Nat → Bool} {held : Bool}
/-- A part of a struct. -/
theorem part_of {t : TypeId} {fs : Array Field} {fuel : Nat} {cs : List Value} {x : DataW H × List MemPlace} (ht : Tryd.prog.underlying t = some (.struct fs)) (h : DataW.trod enc Tryd.prog w base spare held fuel t cs = some x)
    (i : Nat) (f : Field) (hi : fs[i]? = some f) (o k : Nat) (ho : f.offset = o) (hc : Tryd.prog.cellsOf f.type = k) : ∃ y n, DataW.trod enc Tryd.prog w base spare held n f.type ((cs.drop o).take k) = some y := by
  obtain ⟨xs, n, _, _, _, hlen, hf⟩ := DataW.trod_struct ht h
  have h1 := hf i f hi
  have hlt : i < xs.length := by rw [hlen]; exact (Array.getElem?_eq_some_iff.mp hi).1
  rw [ho, hc, List.getElem?_eq_getElem hlt] at h1
  exact ⟨_, n, h1⟩
/-- A list cut into parts of one length. -/
theorem cut_parts {α : Type} (C : α → List Value) (Q : α → Prop) (k : Nat) : ∀ (n : Nat) (cs : List Value), cs.length = n * k → (∀ i, i < n → ∃ x, (cs.drop (i * k)).take k = C x ∧ Q x) → ∃ l : List α, l.length = n ∧ cs = (l.map C).flatten ∧ ∀ x ∈ l, Q x
  | 0, cs, hl, _ => ⟨[], rfl, by have : cs = [] := List.length_eq_zero_iff.mp (by omega); rw [this]; rfl, by simp⟩
  | n + 1, cs, hl, h => by
    obtain ⟨x, hx, hq⟩ := h 0 (by omega)
    rw [Nat.zero_mul, List.drop_zero] at hx
    obtain ⟨l, h1, h2, h3⟩ := cut_parts C Q k n (cs.drop k) (by rw [List.length_drop, hl, Nat.add_mul]; omega) fun i hi => by
      obtain ⟨y, hy, hqy⟩ := h (i + 1) (by omega)
      refine ⟨y, ?_, hqy⟩
      rw [List.drop_drop, ← hy]
      congr 2
      rw [Nat.add_mul]; omega
    refine ⟨x :: l, by rw [List.length_cons, h1], ?_, fun y hy => ?_⟩
    · rw [List.map_cons, List.flatten_cons, ← h2, ← hx, List.take_append_drop]
    · rcases List.mem_cons.mp hy with rfl | hy
      · exact hq
      · exact h3 y hy
theorem array_in {α : Type} (C : α → List Value) (Q : α → Prop) {t e : TypeId} {n k fuel : Nat} {cs : List Value} {x : DataW H × List MemPlace} (ht : Tryd.prog.underlying t = some (.array n e)) (hce : Tryd.prog.cellsOf e = k) (hct : Tryd.prog.cellsOf t = n * k)
    (hel : ∀ m ds y, ds.length = k → DataW.trod enc Tryd.prog w base spare held m e ds = some y → ∃ z, ds = C z ∧ Q z)
    (h : DataW.trod enc Tryd.prog w base spare held fuel t cs = some x) : ∃ l : List α, l.length = n ∧ cs = (l.map C).flatten ∧ ∀ x ∈ l, Q x := by
  obtain ⟨xs, m, _, _, hl, hlen, hf⟩ := DataW.trod_array ht h
  rw [hct] at hl
  refine cut_parts C Q k n cs hl fun i hi => ?_
  have h1 := hf i hi
  rw [hce, List.getElem?_eq_getElem (by omega)] at h1
  refine hel m _ _ ?_ h1
  rw [List.length_take, List.length_drop, hl]
  have : (i + 1) * k ≤ n * k := Nat.mul_le_mul_right k hi
  rw [Nat.add_mul] at this
  omega
theorem ints_in {t e : TypeId} {n fuel : Nat} {cs : List Value} {x : DataW H × List MemPlace} (ht : Tryd.prog.underlying t = some (.array n e)) (he : Tryd.prog.underlying e = some (.int .i64)) (hce : Tryd.prog.cellsOf e = 1) (hct : Tryd.prog.cellsOf t = n)
    (h : DataW.trod enc Tryd.prog w base spare held fuel t cs = some x) : ∃ l : List Int, l.length = n ∧ cs = ints l ∧ AllI l := by
  obtain ⟨l, h1, h2, h3⟩ := array_in (fun z : Int => [Value.int .i64 z]) I64 ht hce (by rw [hct, Nat.mul_one]) (fun m ds y hl hd => by
    obtain ⟨v, rfl⟩ := List.length_eq_one_iff.mp hl
    obtain ⟨z, rfl, hz⟩ := int_in he hd
    exact ⟨z, rfl, hz⟩) h
  refine ⟨l, h1, ?_, h3⟩
  rw [h2]
  clear h1 h2 h3 h
  induction l with
  | nil => rfl
  | cons a l ih => rw [List.map_cons, List.flatten_cons, ih]; rfl
theorem one_at {cs : List Value} {o : Nat} (h : o < cs.length) : (cs.drop o).take 1 = [cs[o]] := by
  rw [List.drop_eq_getElem_cons h]; rfl
theorem go_in {n : Nat} {cs : List Value} {y : DataW H × List MemPlace} (hl : cs.length = 12) (h : DataW.trod enc Tryd.prog w base spare held n 35 cs = some y) : ∃ x : Gr, cs = x.cells ∧ x.wf := by
  obtain ⟨_, _, t0⟩ := part_of Tryd.underlying35 h 0 _ rfl 0 1 rfl (by kernel_rfl)
  obtain ⟨_, _, t1⟩ := part_of Tryd.underlying35 h 1 _ rfl 1 1 rfl (by kernel_rfl)
  obtain ⟨_, _, t2⟩ := part_of Tryd.underlying35 h 2 _ rfl 2 1 rfl (by kernel_rfl)
  obtain ⟨_, _, t3⟩ := part_of Tryd.underlying35 h 3 _ rfl 3 1 rfl (by kernel_rfl)
  obtain ⟨_, _, t4⟩ := part_of Tryd.underlying35 h 4 _ rfl 4 8 rfl (by kernel_rfl)
  rw [one_at (by omega)] at t0 t1 t2 t3
  obtain ⟨z0, e0, b0⟩ := int_in Tryd.underlying3 t0
  obtain ⟨z1, e1, b1⟩ := int_in Tryd.underlying3 t1
  obtain ⟨z2, e2, b2⟩ := int_in Tryd.underlying3 t2
  obtain ⟨z3, e3, b3⟩ := int_in Tryd.underlying3 t3
  obtain ⟨l, l1, l2, l3⟩ := ints_in Tryd.underlying28 Tryd.underlying2 (by kernel_rfl) (by kernel_rfl) t4
  refine ⟨⟨z0, z1, z2, z3, l⟩, ?_, b0, b1, b2, b3, l1, l3⟩
  show cs = [.int .i64 z0, .int .i64 z1, .int .i64 z2, .int .i64 z3] ++ ints l
  rw [← l2, ← e0, ← e1, ← e2, ← e3, List.take_of_length_le (by rw [List.length_drop]; omega)]
  have d0 := List.drop_eq_getElem_cons (l := cs) (i := 0) (by omega)
  have d1 := List.drop_eq_getElem_cons (l := cs) (i := 1) (by omega)
  have d2 := List.drop_eq_getElem_cons (l := cs) (i := 2) (by omega)
  have d3 := List.drop_eq_getElem_cons (l := cs) (i := 3) (by omega)
  rw [List.drop_zero] at d0
  exact d0.trans (by rw [d1, d2, d3]; rfl)
theorem ch_in {n : Nat} {cs : List Value} {y : DataW H × List MemPlace} (hl : cs.length = 9) (h : DataW.trod enc Tryd.prog w base spare held n 32 cs = some y) : ∃ x : Chc, cs = x.cells ∧ x.wf := by
  obtain ⟨_, _, t0⟩ := part_of Tryd.underlying32 h 0 _ rfl 0 4 rfl (by kernel_rfl)
  obtain ⟨_, _, t1⟩ := part_of Tryd.underlying32 h 1 _ rfl 4 1 rfl (by kernel_rfl)
  obtain ⟨_, _, t2⟩ := part_of Tryd.underlying32 h 2 _ rfl 5 1 rfl (by kernel_rfl)
  obtain ⟨_, _, t3⟩ := part_of Tryd.underlying32 h 3 _ rfl 6 1 rfl (by kernel_rfl)
  obtain ⟨_, _, t4⟩ := part_of Tryd.underlying32 h 4 _ rfl 7 1 rfl (by kernel_rfl)
  obtain ⟨_, _, t5⟩ := part_of Tryd.underlying32 h 5 _ rfl 8 1 rfl (by kernel_rfl)
  rw [one_at (by omega)] at t1 t2 t3 t4 t5
  obtain ⟨l, l1, l2, l3⟩ := ints_in Tryd.underlying30 Tryd.underlying2 (by kernel_rfl) (by kernel_rfl) t0
  obtain ⟨z1, e1, b1⟩ := int_in Tryd.underlying3 t1
  obtain ⟨z2, e2⟩ := bool_in Tryd.underlying4 t2
  obtain ⟨z3, e3, b3⟩ := int_in Tryd.underlying3 t3
  obtain ⟨z4, e4, b4⟩ := int_in Tryd.underlying3 t4
  obtain ⟨z5, e5, b5⟩ := int_in Tryd.underlying2 t5
  refine ⟨⟨l, z1, z2, z3, z4, z5⟩, ?_, b1, b3, b4, b5, l1, l3⟩
  show cs = ints l ++ [.int .i64 z1, .bool z2, .int .i64 z3, .int .i64 z4, .int .i64 z5]
  rw [← l2, ← e1, ← e2, ← e3, ← e4, ← e5, List.drop_zero]
  have d4 := List.drop_eq_getElem_cons (l := cs) (i := 4) (by omega)
  have d5 := List.drop_eq_getElem_cons (l := cs) (i := 5) (by omega)
  have d6 := List.drop_eq_getElem_cons (l := cs) (i := 6) (by omega)
  have d7 := List.drop_eq_getElem_cons (l := cs) (i := 7) (by omega)
  have d8 := List.drop_eq_getElem_cons (l := cs) (i := 8) (by omega)
  have d9 : cs.drop 9 = [] := List.drop_eq_nil_of_le (by omega)
  refine (List.take_append_drop 4 cs).symm.trans ?_
  rw [d4, d5, d6, d7, d8, d9]
theorem st_in {n : Nat} {cs : List Value} {y : DataW H × List MemPlace} (hl : cs.length = 121) (h : DataW.trod enc Tryd.prog w base spare held n 38 cs = some y) : ∃ x : Sts, cs = x.cells ∧ x.wf := by
  obtain ⟨_, _, t0⟩ := part_of Tryd.underlying38 h 0 _ rfl 0 8 rfl (by kernel_rfl)
  obtain ⟨_, _, t1⟩ := part_of Tryd.underlying38 h 1 _ rfl 8 4 rfl (by kernel_rfl)
  obtain ⟨_, _, t2⟩ := part_of Tryd.underlying38 h 2 _ rfl 12 36 rfl (by kernel_rfl)
  obtain ⟨_, _, t3⟩ := part_of Tryd.underlying38 h 3 _ rfl 48 72 rfl (by kernel_rfl)
  obtain ⟨_, _, t4⟩ := part_of Tryd.underlying38 h 4 _ rfl 120 1 rfl (by kernel_rfl)
  rw [one_at (by omega)] at t4
  obtain ⟨l0, a0, c0, w0⟩ := ints_in Tryd.underlying28 Tryd.underlying2 (by kernel_rfl) (by kernel_rfl) t0
  obtain ⟨l1, a1, c1, w1⟩ := ints_in Tryd.underlying29 Tryd.underlying3 (by kernel_rfl) (by kernel_rfl) t1
  obtain ⟨l2, a2, c2, w2⟩ := array_in Chc.cells Chc.wf Tryd.underlying33 (k := 9) (by kernel_rfl) (by kernel_rfl) (fun m ds y q1 q2 => ch_in q1 q2) t2
  obtain ⟨l3, a3, c3, w3⟩ := array_in Gr.cells Gr.wf Tryd.underlying36 (k := 12) (by kernel_rfl) (by kernel_rfl) (fun m ds y q1 q2 => go_in q1 q2) t3
  obtain ⟨z4, e4, b4⟩ := int_in Tryd.underlying3 t4
  refine ⟨⟨l0, l1, l2, l3, z4⟩, ?_, a0, a1, a2, a3, w0, w1, w2, w3, b4⟩
  show cs = ints l0 ++ (ints l1 ++ ((l2.map Chc.cells).flatten ++ ((l3.map Gr.cells).flatten ++ [.int .i64 z4])))
  rw [← c0, ← c1, ← c2, ← c3, ← e4, List.drop_zero]
  have d120 : cs.drop 120 = [cs[120]] := by rw [List.drop_eq_getElem_cons (l := cs) (i := 120) (by omega), List.drop_eq_nil_of_le (by omega)]
  have s1 : ∀ a k, cs.drop a = (cs.drop a).take k ++ cs.drop (a + k) := fun a k => by rw [← List.drop_drop]; exact (List.take_append_drop k _).symm
  have q0 := s1 0 8
  rw [List.drop_zero] at q0
  refine q0.trans ?_
  congr 1
  refine (s1 8 4).trans ?_
  congr 1
  refine (s1 12 36).trans ?_
  congr 1
  refine (s1 48 72).trans ?_
  congr 1
end
end Go.Proofs.YtjcmhaaohdmjpaaDoor.pg
/- Whether all of a list are zero: package state's blank. -/
namespace Go.Proofs.YtjcmhaaohdmjpaaDoor.pg
open Go.ChangeShapes Go.WideShapes Go.ChangeAt Go.RowKit
set_option linter.unusedVariables false
set_option linter.unusedSimpArgs false
set_option maxRecDepth 100000
theorem all_take_more {α : Type} {p : α → Prop} {l : List α} {k : Nat} {x : α} (h : ∀ y ∈ l.take k, p y) (hk : l[k]? = some x) (hx : p x) : ∀ y ∈ l.take (k + 1), p y := fun y hy => by
  rw [List.take_add_one, hk] at hy
  simp only [Option.toList, List.mem_append, List.mem_singleton] at hy
  rcases hy with q | q
  · exact h y q
  · rw [q]; exact hx
theorem ix64 {w : World} {a : Option Addr} {cap : Nat} {l : List Int} (h : Rows w 1 a cap (l.map chCells)) (i : Nat) (x : Int) (hi : l[i]? = some x) :
    ∃ b o, (∀ wx, (Instr.indexAt 93 (.slice a l.length cap) (.int .i64 (i : Int))).run Tryd.prog wx = .ok (.pointer (some ⟨b, o, none⟩)) wx) ∧ b < w.heap.size ∧ w.cell? ⟨b, o, none⟩ = some (.int .i64 x) := by
  obtain ⟨b, o, hr, hlt, hc⟩ := h.ix 93 2 Tryd.underlying93 (by kernel_rfl) (fun wx => Tryd.sizeOf2 wx) i (row := chCells x) (by simp [hi])
  rw [List.length_map] at hr
  exact ⟨b, o, hr, hlt, hc 0 _ rfl⟩
theorem ixGo {w : World} {a : Option Addr} {cap : Nat} {l : List Gr} (h : Rows w 12 a cap (l.map Gr.cells)) (i : Nat) (x : Gr) (hi : l[i]? = some x) :
    ∃ b o, (∀ wx, (Instr.indexAt 76 (.slice a l.length cap) (.int .i64 (i : Int))).run Tryd.prog wx = .ok (.pointer (some ⟨b, o, none⟩)) wx) ∧ b < w.heap.size ∧ w.rangeAt b o x.cells := by
  obtain ⟨b, o, hr, hlt, hc⟩ := h.ix 76 35 Tryd.underlying76 (by kernel_rfl) (fun wx => Tryd.sizeOf35 wx) i (row := x.cells) (by simp [hi])
  rw [List.length_map] at hr
  exact ⟨b, o, hr, hlt, hc⟩
theorem ixCh {w : World} {a : Option Addr} {cap : Nat} {l : List Chc} (h : Rows w 9 a cap (l.map Chc.cells)) (i : Nat) (x : Chc) (hi : l[i]? = some x) :
    ∃ b o, (∀ wx, (Instr.indexAt 96 (.slice a l.length cap) (.int .i64 (i : Int))).run Tryd.prog wx = .ok (.pointer (some ⟨b, o, none⟩)) wx) ∧ b < w.heap.size ∧ w.rangeAt b o x.cells := by
  obtain ⟨b, o, hr, hlt, hc⟩ := h.ix 96 32 Tryd.underlying96 (by kernel_rfl) (fun wx => Tryd.sizeOf32 wx) i (row := x.cells) (by simp [hi])
  rw [List.length_map] at hr
  exact ⟨b, o, hr, hlt, hc⟩
set_option maxHeartbeats 1000000 in
theorem blank_i64 (l : List Int) (a : Option Addr) (cap : Nat) (w : World) (hl : Rows w 1 a cap (l.map chCells)) (R : Bool) (hR : Hid (R = true ↔ ∀ x ∈ l, x = 0)) :
    Calls Tryd.prog 40 #[.slice a l.length cap] w fun e w' => e = .returned (.bool R) ∧ w' = w := by
  have hlI := rows_len hl
  have hlH : Hid (Rows w 1 a cap (l.map chCells)) := hl
  clear hl
  go_enter Tryd.func40, Tryd.ntmps40
  go_wp2
  go_loopw [8] (fun u wr => ∃ k : Nat, k ≤ l.length ∧ u = .int .i64 (k : Int) ∧ wr = w ∧ Hid (∀ x ∈ l.take k, x = 0)) (fun u _ => l.length - (intOf u).toNat)
  case atStart => exact ⟨0, Nat.zero_le _, rfl, rfl, fun x hx => by simp at hx⟩
  case round =>
    obtain ⟨k, hk, rfl, rfl, hz⟩ := hrel
    by_cases hlt : k < l.length
    · obtain ⟨x, hx, hm⟩ := get_lt l k hlt
      obtain ⟨b, o, hix, hb, hc⟩ := ix64 hlH.out k x hx
      have hkI : (k : Int) < l.length := by omega
      by_cases c : x = 0
      · have hz2 : Hid (∀ y ∈ l.take (k + 1), y = 0) := all_take_more hz.out hx c
        subst c
        clear hx hm hz
        go_wp2
        go_roundw
        case rel => exact ⟨k + 1, by omega, by go_num, trivial, hz2⟩
        case measure => simp [intOf]; omega
      · have hf : R = false := by
          rw [Bool.eq_false_iff]
          intro q
          exact c (hR.out.mp q x hm)
        subst hf
        have hne : (x != 0) = true := by simpa using c
        clear hR hx hm hz c
        go_wp2
        go_ret
        exact ⟨rfl, rfl⟩
    · have hkl : k = l.length := by omega
      have ht : R = true := hR.out.mpr fun x hx => hz.out x (by rw [hkl, List.take_length]; exact hx)
      subst ht
      have hkI : ¬ (k : Int) < l.length := by omega
      clear hR hz hkl
      go_wp2
      go_ret
      exact ⟨rfl, rfl⟩
set_option maxHeartbeats 1000000 in
theorem blank_int (l : List Int) (a : Option Addr) (cap : Nat) (w : World) (hl : Rows w 1 a cap (l.map chCells)) (R : Bool) (hR : Hid (R = true ↔ ∀ x ∈ l, x = 0)) :
    Calls Tryd.prog 41 #[.slice a l.length cap] w fun e w' => e = .returned (.bool R) ∧ w' = w := by
  have hlI := rows_len hl
  have hlH : Hid (Rows w 1 a cap (l.map chCells)) := hl
  clear hl
  go_enter Tryd.func41, Tryd.ntmps41
  go_wp2
  go_loopw [8] (fun u wr => ∃ k : Nat, k ≤ l.length ∧ u = .int .i64 (k : Int) ∧ wr = w ∧ Hid (∀ x ∈ l.take k, x = 0)) (fun u _ => l.length - (intOf u).toNat)
  case atStart => exact ⟨0, Nat.zero_le _, rfl, rfl, fun x hx => by simp at hx⟩
  case round =>
    obtain ⟨k, hk, rfl, rfl, hz⟩ := hrel
    by_cases hlt : k < l.length
    · obtain ⟨x, hx, hm⟩ := get_lt l k hlt
      obtain ⟨b, o, hix, hb, hc⟩ := ch_ix hlH.out k x hx
      have hkI : (k : Int) < l.length := by omega
      by_cases c : x = 0
      · have hz2 : Hid (∀ y ∈ l.take (k + 1), y = 0) := all_take_more hz.out hx c
        subst c
        clear hx hm hz
        go_wp2
        go_roundw
        case rel => exact ⟨k + 1, by omega, by go_num, trivial, hz2⟩
        case measure => simp [intOf]; omega
      · have hf : R = false := by
          rw [Bool.eq_false_iff]
          intro q
          exact c (hR.out.mp q x hm)
        subst hf
        have hne : (x != 0) = true := by simpa using c
        clear hR hx hm hz c
        go_wp2
        go_ret
        exact ⟨rfl, rfl⟩
    · have hkl : k = l.length := by omega
      have ht : R = true := hR.out.mpr fun x hx => hz.out x (by rw [hkl, List.take_length]; exact hx)
      subst ht
      have hkI : ¬ (k : Int) < l.length := by omega
      clear hR hz hkl
      go_wp2
      go_ret
      exact ⟨rfl, rfl⟩
theorem infoGw {g : Gr} (h : g.wf) : (Tryd.prog.info? 35).map (·.size) = some g.cells.toArray.size := infoG h.2.2.2.2.1
set_option maxHeartbeats 1000000 in
theorem blank_go (l : List Gr) (a : Option Addr) (cap : Nat) (w : World) (hl : Rows w 12 a cap (l.map Gr.cells)) (hw : ∀ x ∈ l, x.wf) (R : Bool) (hR : Hid (R = true ↔ ∀ x ∈ l, x = zeroG)) :
    Calls Tryd.prog 39 #[.slice a l.length cap] w fun e w' => e = .returned (.bool R) ∧ Below w.heap.size w w' := by
  have hlI := rows_len hl
  have hlH : Hid (Rows w 12 a cap (l.map Gr.cells)) := hl
  have hwH : Hid (∀ x ∈ l, x.wf) := hw
  clear hl hw
  have s0 : Hid (Below w.heap.size w (w.alloc (objG zeroG)) ∧ (w.alloc (objG zeroG)).heap[w.heap.size]? = some (objG zeroG)) := ⟨boxed _ _, heap_alloc_new w _⟩
  go_enter Tryd.func39, Tryd.ntmps39
  go_upto_region 2 with fail
  rw [show (Obj.cells #[.int .i64 0, .int .i64 0, .int .i64 0, .int .i64 0, .int .i64 0, .int .i64 0, .int .i64 0, .int .i64 0, .int .i64 0, .int .i64 0, .int .i64 0, .int .i64 0] 35) = objG zeroG from rfl]
  generalize w.alloc (objG zeroG) = W at *
  go_wp2_with fail
  go_loopw [8] (fun u wr => ∃ k : Nat, k ≤ l.length ∧ u = .int .i64 (k : Int) ∧ Hid (Below w.heap.size w wr ∧ wr.heap[w.heap.size]? = some (objG zeroG)) ∧ Hid (∀ x ∈ l.take k, x = zeroG)) (fun u _ => l.length - (intOf u).toNat)
  case atStart => exact ⟨0, Nat.zero_le _, rfl, s0, fun x hx => by simp at hx⟩
  case round =>
    clear s0
    obtain ⟨k, hk, rfl, hs, hz⟩ := hrel
    by_cases hlt : k < l.length
    · obtain ⟨x, hx, hm⟩ := get_lt l k hlt
      obtain ⟨b, o, hix, hb, hc0⟩ := ixGo hlH.out k x hx
      have hc : Hid (wr.rangeAt b o x.cells) := fun q v hv => (hs.out.1.cell (p := ⟨b, o + q, none⟩) hb).trans (hc0 q v hv)
      have hkI : (k : Int) < l.length := by omega
      have hwx := hwH.out x hm
      have hinf : Hid ((Tryd.prog.info? 35).map (·.size) = some x.cells.length) := by have := infoGw hwx; rwa [List.size_toArray] at this
      have hinfA : Hid ((Tryd.prog.info? 35).map (·.size) = some x.cells.toArray.size) := infoGw hwx
      have hu : Hid (Tryd.prog.underlying 35 = _) := Tryd.underlying35
      have hone := oneG x
      obtain ⟨ZI, hZ1, hZ2, _⟩ := zero_big (P := Tryd.prog) (t := 35) (n := 12) (by kernel_rfl)
      have hsz : Hid (ZI.size = x.cells.toArray.size) := by show _ = _; rw [hZ2, List.size_toArray, Gr.len hwx]
      have hzi : (wr.alloc (.cells ZI 35)).heap[wr.heap.size]? = some (.cells ZI 35) := heap_alloc_new wr _
      have hlw : w.heap.size < wr.heap.size := (Array.getElem?_eq_some_iff.mp hs.out.2).1
      have hb2 : Hid (Below w.heap.size w ((wr.alloc (.cells ZI 35)).setRow wr.heap.size x.cells.toArray)) := below_setRowG (bthen hs.out.1 (boxed _ _)) (by omega) _
      have hx2 : ((wr.alloc (.cells ZI 35)).setRow wr.heap.size x.cells.toArray).heap[wr.heap.size]? = some (objG x) := setRow_heap _ _ _ _ _ _ hzi
      have hz2 : ((wr.alloc (.cells ZI 35)).setRow wr.heap.size x.cells.toArray).heap[w.heap.size]? = some (objG zeroG) := (setRow_other _ _ _ _ (by omega)).trans (((boxed wr (.cells ZI 35)).block _ hlw).trans hs.out.2)
      have hxH : Hid (((wr.alloc (.cells ZI 35)).setRow wr.heap.size x.cells.toArray).heap[w.heap.size]? = some (objG zeroG)) := hz2
      clear hc0 hZ2
      by_cases c : x = zeroG
      · have hz3 : Hid (∀ y ∈ l.take (k + 1), y = zeroG) := all_take_more hz.out hx c
        have hne := ne_go hwx zeroG_wf false (by simp [c])
        have cH : Hid (x = zeroG) := c
        clear hx hm hz c hwx
        go_wp2_with (first
          | (refine wpList_load_mid rfl 35 _ rfl b o rfl x.cells _ hc.out hu.out rfl hinf.out ?_)
          | (refine wpList_alloc_big rfl 35 rfl hZ1 ?_)
          | (refine wpList_store_row rfl 35 _ _ rfl wr.heap.size x.cells.toArray rfl rfl _ _ hzi hinfA.out hsz.out hone ?_)
          | (refine wpList_load_row rfl 35 _ rfl wr.heap.size rfl _ _ _ _ hx2 hu.out rfl hinfA.out ?_)
          | (refine wpList_load_row rfl 35 _ rfl w.heap.size rfl _ _ _ _ hz2 hu.out rfl (by kernel_rfl) ?_))
        go_roundw
        case rel => exact ⟨k + 1, by omega, by go_num, ⟨hb2.out, hz2⟩, hz3⟩
        case measure => simp [intOf]; omega
      · have hf : R = false := by
          rw [Bool.eq_false_iff]
          intro q
          exact c (hR.out.mp q x hm)
        subst hf
        have hne := ne_go hwx zeroG_wf true (by simp [c])
        clear hR hx hm hz c hwx
        go_wp2_with (first
          | (refine wpList_load_mid rfl 35 _ rfl b o rfl x.cells _ hc.out hu.out rfl hinf.out ?_)
          | (refine wpList_alloc_big rfl 35 rfl hZ1 ?_)
          | (refine wpList_store_row rfl 35 _ _ rfl wr.heap.size x.cells.toArray rfl rfl _ _ hzi hinfA.out hsz.out hone ?_)
          | (refine wpList_load_row rfl 35 _ rfl wr.heap.size rfl _ _ _ _ hx2 hu.out rfl hinfA.out ?_)
          | (refine wpList_load_row rfl 35 _ rfl w.heap.size rfl _ _ _ _ hz2 hu.out rfl (by kernel_rfl) ?_))
        go_ret
        exact ⟨rfl, hb2.out⟩
    · have hkl : k = l.length := by omega
      have ht : R = true := hR.out.mpr fun x hx => hz.out x (by rw [hkl, List.take_length]; exact hx)
      subst ht
      have hkI : ¬ (k : Int) < l.length := by omega
      clear hR hz hkl
      go_wp2
      go_ret
      exact ⟨rfl, hs.out.1⟩
set_option maxHeartbeats 1000000 in
theorem blank_ch (l : List Chc) (a : Option Addr) (cap : Nat) (w : World) (hl : Rows w 9 a cap (l.map Chc.cells)) (hw : ∀ x ∈ l, x.wf) (R : Bool) (hR : Hid (R = true ↔ ∀ x ∈ l, x = zeroC)) :
    Calls Tryd.prog 42 #[.slice a l.length cap] w fun e w' => e = .returned (.bool R) ∧ Below w.heap.size w w' := by
  have hlI := rows_len hl
  have hlH : Hid (Rows w 9 a cap (l.map Chc.cells)) := hl
  have hwH : Hid (∀ x ∈ l, x.wf) := hw
  clear hl hw
  have s0 : Hid (Below w.heap.size w (w.alloc (objCh zeroC)) ∧ (w.alloc (objCh zeroC)).heap[w.heap.size]? = some (objCh zeroC)) := ⟨boxed _ _, heap_alloc_new w _⟩
  go_enter Tryd.func42, Tryd.ntmps42
  go_upto_region 2 with fail
  rw [show (Obj.cells #[.int .i64 0, .int .i64 0, .int .i64 0, .int .i64 0, .int .i64 0, .bool false, .int .i64 0, .int .i64 0, .int .i64 0] 32) = objCh zeroC from rfl]
  generalize w.alloc (objCh zeroC) = W at *
  go_wp2_with fail
  go_loopw [8] (fun u wr => ∃ k : Nat, k ≤ l.length ∧ u = .int .i64 (k : Int) ∧ Hid (Below w.heap.size w wr ∧ wr.heap[w.heap.size]? = some (objCh zeroC)) ∧ Hid (∀ x ∈ l.take k, x = zeroC)) (fun u _ => l.length - (intOf u).toNat)
  case atStart => exact ⟨0, Nat.zero_le _, rfl, s0, fun x hx => by simp at hx⟩
  case round =>
    clear s0
    obtain ⟨k, hk, rfl, hs, hz⟩ := hrel
    by_cases hlt : k < l.length
    · obtain ⟨x, hx, hm⟩ := get_lt l k hlt
      obtain ⟨b, o, hix, hb, hc0⟩ := ixCh hlH.out k x hx
      have hc : Hid (wr.rangeAt b o x.cells) := fun q v hv => (hs.out.1.cell (p := ⟨b, o + q, none⟩) hb).trans (hc0 q v hv)
      have hkI : (k : Int) < l.length := by omega
      have hwx := hwH.out x hm
      have hinf : Hid ((Tryd.prog.info? 32).map (·.size) = some x.cells.length) := by have := infoC hwx; rwa [List.size_toArray] at this
      have hinfA : Hid ((Tryd.prog.info? 32).map (·.size) = some x.cells.toArray.size) := infoC hwx
      have hu : Hid (Tryd.prog.underlying 32 = _) := Tryd.underlying32
      have hone := oneC x
      obtain ⟨ZI, hZ1, hZ2, _⟩ := zero_big (P := Tryd.prog) (t := 32) (n := 9) (by kernel_rfl)
      have hsz : Hid (ZI.size = x.cells.toArray.size) := by show _ = _; rw [hZ2, List.size_toArray, Chc.len hwx]
      have hzi : (wr.alloc (.cells ZI 32)).heap[wr.heap.size]? = some (.cells ZI 32) := heap_alloc_new wr _
      have hlw : w.heap.size < wr.heap.size := (Array.getElem?_eq_some_iff.mp hs.out.2).1
      have hb2 : Hid (Below w.heap.size w ((wr.alloc (.cells ZI 32)).setRow wr.heap.size x.cells.toArray)) := below_setRowG (bthen hs.out.1 (boxed _ _)) (by omega) _
      have hx2 : ((wr.alloc (.cells ZI 32)).setRow wr.heap.size x.cells.toArray).heap[wr.heap.size]? = some (objCh x) := setRow_heap _ _ _ _ _ _ hzi
      have hz2 : ((wr.alloc (.cells ZI 32)).setRow wr.heap.size x.cells.toArray).heap[w.heap.size]? = some (objCh zeroC) := (setRow_other _ _ _ _ (by omega)).trans (((boxed wr (.cells ZI 32)).block _ hlw).trans hs.out.2)
      have hxH : Hid (((wr.alloc (.cells ZI 32)).setRow wr.heap.size x.cells.toArray).heap[w.heap.size]? = some (objCh zeroC)) := hz2
      clear hc0 hZ2
      by_cases c : x = zeroC
      · have hz3 : Hid (∀ y ∈ l.take (k + 1), y = zeroC) := all_take_more hz.out hx c
        have hne := ne_ch hwx zeroC_wf false (by simp [c])
        have cH : Hid (x = zeroC) := c
        clear hx hm hz c hwx
        go_wp2_with (first
          | (refine wpList_load_mid rfl 32 _ rfl b o rfl x.cells _ hc.out hu.out rfl hinf.out ?_)
          | (refine wpList_alloc_big rfl 32 rfl hZ1 ?_)
          | (refine wpList_store_row rfl 32 _ _ rfl wr.heap.size x.cells.toArray rfl rfl _ _ hzi hinfA.out hsz.out hone ?_)
          | (refine wpList_load_row rfl 32 _ rfl wr.heap.size rfl _ _ _ _ hx2 hu.out rfl hinfA.out ?_)
          | (refine wpList_load_row rfl 32 _ rfl w.heap.size rfl _ _ _ _ hz2 hu.out rfl (by kernel_rfl) ?_))
        go_roundw
        case rel => exact ⟨k + 1, by omega, by go_num, ⟨hb2.out, hz2⟩, hz3⟩
        case measure => simp [intOf]; omega
      · have hf : R = false := by
          rw [Bool.eq_false_iff]
          intro q
          exact c (hR.out.mp q x hm)
        subst hf
        have hne := ne_ch hwx zeroC_wf true (by simp [c])
        clear hR hx hm hz c hwx
        go_wp2_with (first
          | (refine wpList_load_mid rfl 32 _ rfl b o rfl x.cells _ hc.out hu.out rfl hinf.out ?_)
          | (refine wpList_alloc_big rfl 32 rfl hZ1 ?_)
          | (refine wpList_store_row rfl 32 _ _ rfl wr.heap.size x.cells.toArray rfl rfl _ _ hzi hinfA.out hsz.out hone ?_)
          | (refine wpList_load_row rfl 32 _ rfl wr.heap.size rfl _ _ _ _ hx2 hu.out rfl hinfA.out ?_)
          | (refine wpList_load_row rfl 32 _ rfl w.heap.size rfl _ _ _ _ hz2 hu.out rfl (by kernel_rfl) ?_))
        go_ret
        exact ⟨rfl, hb2.out⟩
    · have hkl : k = l.length := by omega
      have ht : R = true := hR.out.mpr fun x hx => hz.out x (by rw [hkl, List.take_length]; exact hx)
      subst ht
      have hkI : ¬ (k : Int) < l.length := by omega
      clear hR hz hkl
      go_wp2
      go_ret
      exact ⟨rfl, hs.out.1⟩
end Go.Proofs.YtjcmhaaohdmjpaaDoor.pg
/- May an operation fail for a reason: package state's mayFail and the document's own failing. -/
namespace Go.Proofs.YtjcmhaaohdmjpaaDoor.pg
open Go.ChangeShapes Go.WideShapes Go.ChangeAt Go.RowKit
set_option linter.unusedVariables false
set_option linter.unusedSimpArgs false
set_option maxRecDepth 100000
theorem mayFail_any (op why : Int) (R : Bool) (hR : Hid (R = true ↔ failB op why)) (w : World) : Calls Tryd.prog 43 #[.int .i64 op, .int .i64 why] w fun e w' => e = .returned (.bool R) ∧ w' = w := by
  by_cases h1 : why = 1
  · subst h1
    by_cases o44 : op = 44
    · subst o44
      have e : R = true := hR.out.mpr (by unfold failB; omega)
      subst e
      clear hR
      go_enter Tryd.func43, Tryd.ntmps43
      go_wp2
      go_ret
      exact ⟨rfl, rfl⟩
    have e : R = false := by
      rw [Bool.eq_false_iff]
      intro q
      have := hR.out.mp q
      unfold failB at this
      omega
    subst e
    clear hR
    have e44 : (op == 44) = false := by simpa using o44
    clear o44
    go_enter Tryd.func43, Tryd.ntmps43
    go_wp2
    go_ret
    exact ⟨rfl, rfl⟩
  by_cases h2 : why = 2
  · subst h2
    by_cases o19 : op = 19
    · subst o19
      have e : R = true := hR.out.mpr (by unfold failB; omega)
      subst e
      clear hR
      go_enter Tryd.func43, Tryd.ntmps43
      go_wp2
      go_ret
      exact ⟨rfl, rfl⟩
    by_cases o20 : op = 20
    · subst o20
      have e : R = true := hR.out.mpr (by unfold failB; omega)
      subst e
      clear hR
      go_enter Tryd.func43, Tryd.ntmps43
      go_wp2
      go_ret
      exact ⟨rfl, rfl⟩
    have e : R = false := by
      rw [Bool.eq_false_iff]
      intro q
      have := hR.out.mp q
      unfold failB at this
      omega
    subst e
    clear hR
    have e19 : (op == 19) = false := by simpa using o19
    clear o19
    have e20 : (op == 20) = false := by simpa using o20
    clear o20
    go_enter Tryd.func43, Tryd.ntmps43
    go_wp2
    go_ret
    exact ⟨rfl, rfl⟩
  by_cases h3 : why = 3
  · subst h3
    by_cases o25 : op = 25
    · subst o25
      have e : R = true := hR.out.mpr (by unfold failB; omega)
      subst e
      clear hR
      go_enter Tryd.func43, Tryd.ntmps43
      go_wp2
      go_ret
      exact ⟨rfl, rfl⟩
    by_cases o26 : op = 26
    · subst o26
      have e : R = true := hR.out.mpr (by unfold failB; omega)
      subst e
      clear hR
      go_enter Tryd.func43, Tryd.ntmps43
      go_wp2
      go_ret
      exact ⟨rfl, rfl⟩
    by_cases o27 : op = 27
    · subst o27
      have e : R = true := hR.out.mpr (by unfold failB; omega)
      subst e
      clear hR
      go_enter Tryd.func43, Tryd.ntmps43
      go_wp2
      go_ret
      exact ⟨rfl, rfl⟩
    have e : R = false := by
      rw [Bool.eq_false_iff]
      intro q
      have := hR.out.mp q
      unfold failB at this
      omega
    subst e
    clear hR
    have e25 : (op == 25) = false := by simpa using o25
    clear o25
    have e26 : (op == 26) = false := by simpa using o26
    clear o26
    have e27 : (op == 27) = false := by simpa using o27
    clear o27
    go_enter Tryd.func43, Tryd.ntmps43
    go_wp2
    go_ret
    exact ⟨rfl, rfl⟩
  by_cases h4 : why = 4
  · subst h4
    by_cases o58 : op = 58
    · subst o58
      have e : R = true := hR.out.mpr (by unfold failB; omega)
      subst e
      clear hR
      go_enter Tryd.func43, Tryd.ntmps43
      go_wp2
      go_ret
      exact ⟨rfl, rfl⟩
    by_cases o61 : op = 61
    · subst o61
      have e : R = true := hR.out.mpr (by unfold failB; omega)
      subst e
      clear hR
      go_enter Tryd.func43, Tryd.ntmps43
      go_wp2
      go_ret
      exact ⟨rfl, rfl⟩
    have e : R = false := by
      rw [Bool.eq_false_iff]
      intro q
      have := hR.out.mp q
      unfold failB at this
      omega
    subst e
    clear hR
    have e58 : (op == 58) = false := by simpa using o58
    clear o58
    have e61 : (op == 61) = false := by simpa using o61
    clear o61
    go_enter Tryd.func43, Tryd.ntmps43
    go_wp2
    go_ret
    exact ⟨rfl, rfl⟩
  by_cases h5 : why = 5
  · subst h5
    by_cases o60 : op = 60
    · subst o60
      have e : R = true := hR.out.mpr (by unfold failB; omega)
      subst e
      clear hR
      go_enter Tryd.func43, Tryd.ntmps43
      go_wp2
      go_ret
      exact ⟨rfl, rfl⟩
    have e : R = false := by
      rw [Bool.eq_false_iff]
      intro q
      have := hR.out.mp q
      unfold failB at this
      omega
    subst e
    clear hR
    have e60 : (op == 60) = false := by simpa using o60
    clear o60
    go_enter Tryd.func43, Tryd.ntmps43
    go_wp2
    go_ret
    exact ⟨rfl, rfl⟩
  by_cases h6 : why = 6
  · subst h6
    by_cases o56 : op = 56
    · subst o56
      have e : R = true := hR.out.mpr (by unfold failB; omega)
      subst e
      clear hR
      go_enter Tryd.func43, Tryd.ntmps43
      go_wp2
      go_ret
      exact ⟨rfl, rfl⟩
    have e : R = false := by
      rw [Bool.eq_false_iff]
      intro q
      have := hR.out.mp q
      unfold failB at this
      omega
    subst e
    clear hR
    have e56 : (op == 56) = false := by simpa using o56
    clear o56
    go_enter Tryd.func43, Tryd.ntmps43
    go_wp2
    go_ret
    exact ⟨rfl, rfl⟩
  by_cases h7 : why = 7
  · subst h7
    by_cases o63 : op = 63
    · subst o63
      have e : R = true := hR.out.mpr (by unfold failB; omega)
      subst e
      clear hR
      go_enter Tryd.func43, Tryd.ntmps43
      go_wp2
      go_ret
      exact ⟨rfl, rfl⟩
    have e : R = false := by
      rw [Bool.eq_false_iff]
      intro q
      have := hR.out.mp q
      unfold failB at this
      omega
    subst e
    clear hR
    have e63 : (op == 63) = false := by simpa using o63
    clear o63
    go_enter Tryd.func43, Tryd.ntmps43
    go_wp2
    go_ret
    exact ⟨rfl, rfl⟩
  by_cases h8 : why = 8
  · subst h8
    by_cases o62 : op = 62
    · subst o62
      have e : R = true := hR.out.mpr (by unfold failB; omega)
      subst e
      clear hR
      go_enter Tryd.func43, Tryd.ntmps43
      go_wp2
      go_ret
      exact ⟨rfl, rfl⟩
    have e : R = false := by
      rw [Bool.eq_false_iff]
      intro q
      have := hR.out.mp q
      unfold failB at this
      omega
    subst e
    clear hR
    have e62 : (op == 62) = false := by simpa using o62
    clear o62
    go_enter Tryd.func43, Tryd.ntmps43
    go_wp2
    go_ret
    exact ⟨rfl, rfl⟩
  have e : R = false := by
    rw [Bool.eq_false_iff]
    intro q
    have := hR.out.mp q
    unfold failB at this
    omega
  subst e
  clear hR
  have e1 : (why == 1) = false := by simpa using h1
  clear h1
  have e2 : (why == 2) = false := by simpa using h2
  clear h2
  have e3 : (why == 3) = false := by simpa using h3
  clear h3
  have e4 : (why == 4) = false := by simpa using h4
  clear h4
  have e5 : (why == 5) = false := by simpa using h5
  clear h5
  have e6 : (why == 6) = false := by simpa using h6
  clear h6
  have e7 : (why == 7) = false := by simpa using h7
  clear h7
  have e8 : (why == 8) = false := by simpa using h8
  clear h8
  go_enter Tryd.func43, Tryd.ntmps43
  go_wp2
  go_ret
  exact ⟨rfl, rfl⟩
theorem failing_any (op why : Int) (R : Bool) (hR : Hid (R = true ↔ failB op why)) (w : World) : Calls Tryd.prog 45 #[.int .i64 op, .int .i64 why] w fun e w' => e = .returned (.bool R) ∧ w' = w := by
  by_cases h1 : why = 1
  · subst h1
    by_cases o44 : op = 44
    · subst o44
      have e : R = true := hR.out.mpr (by unfold failB; omega)
      subst e
      clear hR
      go_enter Tryd.func45, Tryd.ntmps45
      go_wp2
      go_ret
      exact ⟨rfl, rfl⟩
    have e : R = false := by
      rw [Bool.eq_false_iff]
      intro q
      have := hR.out.mp q
      unfold failB at this
      omega
    subst e
    clear hR
    have e44 : (op == 44) = false := by simpa using o44
    clear o44
    go_enter Tryd.func45, Tryd.ntmps45
    go_wp2
    go_ret
    exact ⟨rfl, rfl⟩
  by_cases h2 : why = 2
  · subst h2
    by_cases o19 : op = 19
    · subst o19
      have e : R = true := hR.out.mpr (by unfold failB; omega)
      subst e
      clear hR
      go_enter Tryd.func45, Tryd.ntmps45
      go_wp2
      go_ret
      exact ⟨rfl, rfl⟩
    by_cases o20 : op = 20
    · subst o20
      have e : R = true := hR.out.mpr (by unfold failB; omega)
      subst e
      clear hR
      go_enter Tryd.func45, Tryd.ntmps45
      go_wp2
      go_ret
      exact ⟨rfl, rfl⟩
    have e : R = false := by
      rw [Bool.eq_false_iff]
      intro q
      have := hR.out.mp q
      unfold failB at this
      omega
    subst e
    clear hR
    have e19 : (op == 19) = false := by simpa using o19
    clear o19
    have e20 : (op == 20) = false := by simpa using o20
    clear o20
    go_enter Tryd.func45, Tryd.ntmps45
    go_wp2
    go_ret
    exact ⟨rfl, rfl⟩
  by_cases h3 : why = 3
  · subst h3
    by_cases o25 : op = 25
    · subst o25
      have e : R = true := hR.out.mpr (by unfold failB; omega)
      subst e
      clear hR
      go_enter Tryd.func45, Tryd.ntmps45
      go_wp2
      go_ret
      exact ⟨rfl, rfl⟩
    by_cases o26 : op = 26
    · subst o26
      have e : R = true := hR.out.mpr (by unfold failB; omega)
      subst e
      clear hR
      go_enter Tryd.func45, Tryd.ntmps45
      go_wp2
      go_ret
      exact ⟨rfl, rfl⟩
    by_cases o27 : op = 27
    · subst o27
      have e : R = true := hR.out.mpr (by unfold failB; omega)
      subst e
      clear hR
      go_enter Tryd.func45, Tryd.ntmps45
      go_wp2
      go_ret
      exact ⟨rfl, rfl⟩
    have e : R = false := by
      rw [Bool.eq_false_iff]
      intro q
      have := hR.out.mp q
      unfold failB at this
      omega
    subst e
    clear hR
    by_cases lt : op < 25
    · clear o25 o26 o27
      go_enter Tryd.func45, Tryd.ntmps45
      go_wp2
      go_ret
      exact ⟨rfl, rfl⟩
    · have gt : 27 < op := by omega
      have d27 : decide (op ≤ 27) = false := by simp; omega
      clear o25 o26 o27 lt
      go_enter Tryd.func45, Tryd.ntmps45
      go_wp2
      go_ret
      exact ⟨rfl, rfl⟩
  by_cases h4 : why = 4
  · subst h4
    by_cases o58 : op = 58
    · subst o58
      have e : R = true := hR.out.mpr (by unfold failB; omega)
      subst e
      clear hR
      go_enter Tryd.func45, Tryd.ntmps45
      go_wp2
      go_ret
      exact ⟨rfl, rfl⟩
    by_cases o61 : op = 61
    · subst o61
      have e : R = true := hR.out.mpr (by unfold failB; omega)
      subst e
      clear hR
      go_enter Tryd.func45, Tryd.ntmps45
      go_wp2
      go_ret
      exact ⟨rfl, rfl⟩
    have e : R = false := by
      rw [Bool.eq_false_iff]
      intro q
      have := hR.out.mp q
      unfold failB at this
      omega
    subst e
    clear hR
    have e58 : (op == 58) = false := by simpa using o58
    clear o58
    have e61 : (op == 61) = false := by simpa using o61
    clear o61
    go_enter Tryd.func45, Tryd.ntmps45
    go_wp2
    go_ret
    exact ⟨rfl, rfl⟩
  by_cases h5 : why = 5
  · subst h5
    by_cases o60 : op = 60
    · subst o60
      have e : R = true := hR.out.mpr (by unfold failB; omega)
      subst e
      clear hR
      go_enter Tryd.func45, Tryd.ntmps45
      go_wp2
      go_ret
      exact ⟨rfl, rfl⟩
    have e : R = false := by
      rw [Bool.eq_false_iff]
      intro q
      have := hR.out.mp q
      unfold failB at this
      omega
    subst e
    clear hR
    have e60 : (op == 60) = false := by simpa using o60
    clear o60
    go_enter Tryd.func45, Tryd.ntmps45
    go_wp2
    go_ret
    exact ⟨rfl, rfl⟩
  by_cases h6 : why = 6
  · subst h6
    by_cases o56 : op = 56
    · subst o56
      have e : R = true := hR.out.mpr (by unfold failB; omega)
      subst e
      clear hR
      go_enter Tryd.func45, Tryd.ntmps45
      go_wp2
      go_ret
      exact ⟨rfl, rfl⟩
    have e : R = false := by
      rw [Bool.eq_false_iff]
      intro q
      have := hR.out.mp q
      unfold failB at this
      omega
    subst e
    clear hR
    have e56 : (op == 56) = false := by simpa using o56
    clear o56
    go_enter Tryd.func45, Tryd.ntmps45
    go_wp2
    go_ret
    exact ⟨rfl, rfl⟩
  by_cases h7 : why = 7
  · subst h7
    by_cases o63 : op = 63
    · subst o63
      have e : R = true := hR.out.mpr (by unfold failB; omega)
      subst e
      clear hR
      go_enter Tryd.func45, Tryd.ntmps45
      go_wp2
      go_ret
      exact ⟨rfl, rfl⟩
    have e : R = false := by
      rw [Bool.eq_false_iff]
      intro q
      have := hR.out.mp q
      unfold failB at this
      omega
    subst e
    clear hR
    have e63 : (op == 63) = false := by simpa using o63
    clear o63
    go_enter Tryd.func45, Tryd.ntmps45
    go_wp2
    go_ret
    exact ⟨rfl, rfl⟩
  by_cases h8 : why = 8
  · subst h8
    by_cases o62 : op = 62
    · subst o62
      have e : R = true := hR.out.mpr (by unfold failB; omega)
      subst e
      clear hR
      go_enter Tryd.func45, Tryd.ntmps45
      go_wp2
      go_ret
      exact ⟨rfl, rfl⟩
    have e : R = false := by
      rw [Bool.eq_false_iff]
      intro q
      have := hR.out.mp q
      unfold failB at this
      omega
    subst e
    clear hR
    have e62 : (op == 62) = false := by simpa using o62
    clear o62
    go_enter Tryd.func45, Tryd.ntmps45
    go_wp2
    go_ret
    exact ⟨rfl, rfl⟩
  have e : R = false := by
    rw [Bool.eq_false_iff]
    intro q
    have := hR.out.mp q
    unfold failB at this
    omega
  subst e
  clear hR
  have e1 : (why == 1) = false := by simpa using h1
  clear h1
  have e2 : (why == 2) = false := by simpa using h2
  clear h2
  have e3 : (why == 3) = false := by simpa using h3
  clear h3
  have e4 : (why == 4) = false := by simpa using h4
  clear h4
  have e5 : (why == 5) = false := by simpa using h5
  clear h5
  have e6 : (why == 6) = false := by simpa using h6
  clear h6
  have e7 : (why == 7) = false := by simpa using h7
  clear h7
  have e8 : (why == 8) = false := by simpa using h8
  clear h8
  go_enter Tryd.func45, Tryd.ntmps45
  go_wp2
  go_ret
  exact ⟨rfl, rfl⟩
end Go.Proofs.YtjcmhaaohdmjpaaDoor.pg
