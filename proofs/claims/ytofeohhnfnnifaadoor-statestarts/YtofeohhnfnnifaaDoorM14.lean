/- A state in a box, and its lists. -/
import Derived.Test.YtofeohhnfnnifaaDoorM12
import Derived.Test.YtofeohhnfnnifaaDoorM13
namespace Go.Proofs.YtofeohhnfnnifaaDoor.pg
open Go.ChangeShapes Go.WideShapes Go.ChangeAt Go.RowKit
set_option linter.unusedVariables false
set_option linter.unusedSimpArgs false
set_option maxRecDepth 100000
abbrev Sts.val (s : Sts) : Value := .agg s.cells.toArray
abbrev Chc.vl (c : Chc) : Value := .agg c.cells.toArray
abbrev objSt (s : Sts) : Obj := .cells s.cells.toArray 38
abbrev objCh (c : Chc) : Obj := .cells c.cells.toArray 32
def InS (w : World) (B : Nat) (s : Sts) : Prop := w.heap[B]? = some (objSt s)
theorem InS.lt {w : World} {B : Nat} {x : Sts} (h : InS w B x) : B < w.heap.size := (Array.getElem?_eq_some_iff.mp h).1
theorem InS.later {w w' : World} {B : Nat} {x : Sts} (h : InS w B x) (hb : Below w.heap.size w w') : InS w' B x := (hb.block B h.lt).trans h
theorem inS_new (w : World) (x : Sts) : InS (w.alloc (objSt x)) w.heap.size x := heap_alloc_new w _
theorem infoS121 : (Tryd.prog.info? 38).map (·.size) = some 121 := by kernel_rfl
theorem infoS {s : Sts} (h : s.wf) : (Tryd.prog.info? 38).map (·.size) = some s.cells.toArray.size := by rw [infoS121, List.size_toArray, Sts.len h]
theorem infoC9 : (Tryd.prog.info? 32).map (·.size) = some 9 := by kernel_rfl
theorem infoC {c : Chc} (h : c.wf) : (Tryd.prog.info? 32).map (·.size) = some c.cells.toArray.size := by rw [infoC9, List.size_toArray, Chc.len h]
theorem oneS (s : Sts) : s.cells.toArray.all (·.oneCell') = true := by
  rw [List.all_toArray, List.all_eq_true]
  intro u hu
  simp only [Sts.cells, List.mem_append, List.mem_map, List.mem_flatten, List.mem_singleton] at hu
  rcases hu with ⟨x, _, rfl⟩ | ⟨x, _, rfl⟩ | ⟨l, ⟨c, _, rfl⟩, hu⟩ | ⟨l, ⟨g, _, rfl⟩, hu⟩ | rfl
  · rfl
  · rfl
  · simp only [Chc.cells, List.mem_append, List.mem_map, List.mem_cons, List.not_mem_nil, or_false] at hu
    rcases hu with ⟨x, _, rfl⟩ | rfl | rfl | rfl | rfl | rfl <;> rfl
  · simp only [Gr.cells, List.mem_append, List.mem_map, List.mem_cons, List.not_mem_nil, or_false] at hu
    rcases hu with (rfl | rfl | rfl | rfl) | ⟨x, _, rfl⟩ <;> rfl
  · rfl
theorem oneC (c : Chc) : c.cells.toArray.all (·.oneCell') = true := by
  rw [List.all_toArray, List.all_eq_true]
  intro u hu
  simp only [Chc.cells, List.mem_append, List.mem_map, List.mem_cons, List.not_mem_nil, or_false] at hu
  rcases hu with ⟨x, _, rfl⟩ | rfl | rfl | rfl | rfl | rfl <;> rfl
/-- Rows that stand in a box. -/
theorem rows_of {w : World} {B : Nat} {cs : List Value} {t : TypeId} (h : w.heap[B]? = some (.cells cs.toArray t (0, 0))) {off k cap : Nat} (L : List (List Value)) (hk : ∀ row ∈ L, row.length = k) (hc : L.length ≤ cap) (hm : cap ≤ 9223372036854775807) (a c : List Value) (e : cs = a ++ (L.flatten ++ c)) (ho : a.length = off) : Rows w k (some ⟨B, off, none⟩) cap L := by
  refine ⟨hc, hm, by simp, .inr ⟨B, off, rfl, (Array.getElem?_eq_some_iff.mp h).1, fun i row hi => ⟨hk row (List.mem_of_getElem? hi), fun j u hj => cell_ofG h ?_⟩⟩⟩
  have hjk : j < k := by rw [← hk row (List.mem_of_getElem? hi)]; exact (List.getElem?_eq_some_iff.mp hj).1
  have := flatten_at L hk i row hi j hjk
  rw [hj] at this
  have hlt := (List.getElem?_eq_some_iff.mp this).1
  rw [List.getElem?_toArray, e, List.getElem?_append_right (by omega), ho, Nat.add_sub_cancel_left, List.getElem?_append_left hlt]
  exact this
theorem InS.vars {w : World} {B : Nat} {s : Sts} (h : InS w B s) (hw : s.wf) : Rows w 1 (some ⟨B, 0, none⟩) 8 (s.vars.map chCells) :=
  rows_of h _ (fun r hr => by obtain ⟨x, _, rfl⟩ := List.mem_map.mp hr; rfl) (by rw [List.length_map, hw.lv]; omega) (by omega) [] (ints s.own ++ ((s.ch.map Chc.cells).flatten ++ ((s.gos.map Gr.cells).flatten ++ [.int .i64 s.cnt]))) (by rw [← ints_flat]; rfl) rfl
theorem InS.own {w : World} {B : Nat} {s : Sts} (h : InS w B s) (hw : s.wf) : Rows w 1 (some ⟨B, 8, none⟩) 4 (s.own.map chCells) :=
  rows_of h _ (fun r hr => by obtain ⟨x, _, rfl⟩ := List.mem_map.mp hr; rfl) (by rw [List.length_map, hw.lo]; omega) (by omega) (ints s.vars) ((s.ch.map Chc.cells).flatten ++ ((s.gos.map Gr.cells).flatten ++ [.int .i64 s.cnt])) (by rw [← ints_flat]; rfl) (by simp [hw.lv])
theorem InS.chs {w : World} {B : Nat} {s : Sts} (h : InS w B s) (hw : s.wf) : Rows w 9 (some ⟨B, 12, none⟩) 4 (s.ch.map Chc.cells) :=
  rows_of h _ (fun r hr => by obtain ⟨x, hx, rfl⟩ := List.mem_map.mp hr; exact Chc.len (hw.ac x hx)) (by rw [List.length_map, hw.lc]; omega) (by omega) (ints s.vars ++ ints s.own) ((s.gos.map Gr.cells).flatten ++ [.int .i64 s.cnt]) (by rw [List.append_assoc]; rfl) (by simp [hw.lv, hw.lo])
theorem InS.gos {w : World} {B : Nat} {s : Sts} (h : InS w B s) (hw : s.wf) : Rows w 12 (some ⟨B, 48, none⟩) 6 (s.gos.map Gr.cells) :=
  rows_of h _ (fun r hr => by obtain ⟨x, hx, rfl⟩ := List.mem_map.mp hr; exact Gr.len (hw.ag x hx)) (by rw [List.length_map, hw.lg]; omega) (by omega) (ints s.vars ++ (ints s.own ++ (s.ch.map Chc.cells).flatten)) [.int .i64 s.cnt] (by simp only [List.append_assoc]; rfl) (by simp only [List.length_append, List.length_map, hw.lv, hw.lo, flat_len Chc.cells 9 _ fun c hc => Chc.len (hw.ac c hc), hw.lc])
theorem InS.cnt {w : World} {B : Nat} {s : Sts} (h : InS w B s) (hw : s.wf) : w.cell? ⟨B, 120, none⟩ = some (.int .i64 s.cnt) := by
  refine cell_ofG h ?_
  rw [List.getElem?_toArray]
  have e : s.cells = (ints s.vars ++ (ints s.own ++ ((s.ch.map Chc.cells).flatten ++ (s.gos.map Gr.cells).flatten))) ++ [.int .i64 s.cnt] := by simp only [List.append_assoc]; rfl
  have l : (ints s.vars ++ (ints s.own ++ ((s.ch.map Chc.cells).flatten ++ (s.gos.map Gr.cells).flatten))).length = 120 := by
    simp only [List.length_append, List.length_map, hw.lv, hw.lo, flat_len Chc.cells 9 _ fun c hc => Chc.len (hw.ac c hc), hw.lc, flat_len Gr.cells 12 _ fun c hc => Gr.len (hw.ag c hc), hw.lg]
  rw [e, List.getElem?_append_right (by omega), l]
  rfl
theorem Rows.drp {w : World} {k b off cap : Nat} {L : List (List Value)} (h : Rows w k (some ⟨b, off, none⟩) cap L) (m : Nat) (hm : m ≤ L.length) : Rows w k (some ⟨b, off + m * k, none⟩) (cap - m) (L.drop m) := by
  obtain ⟨h1, h2, h3, h4⟩ := h
  refine ⟨by rw [List.length_drop]; omega, by omega, by simp, ?_⟩
  rcases h4 with rfl | ⟨b', off', ha, hlt, hc⟩
  · exact .inl (by simp)
  · simp only [Option.some.injEq, Addr.mk.injEq, and_true] at ha
    obtain ⟨rfl, rfl⟩ := ha
    refine .inr ⟨b, off + m * k, rfl, hlt, fun i row hi => ?_⟩
    rw [List.getElem?_drop] at hi
    obtain ⟨q1, q2⟩ := hc (m + i) row hi
    refine ⟨q1, fun j u hj => ?_⟩
    have := q2 j u hj
    rw [Nat.add_mul] at this
    rw [show off + m * k + (i * k + j) = off + (m * k + i * k + j) by omega]
    exact this
theorem Rows.tak {w : World} {k cap : Nat} {a : Option Addr} {L : List (List Value)} (h : Rows w k a cap L) (m : Nat) : Rows w k a cap (L.take m) := by
  obtain ⟨h1, h2, h3, h4⟩ := h
  refine ⟨by rw [List.length_take]; omega, h2, fun q => ⟨by rw [(h3 q).1]; simp, (h3 q).2⟩, ?_⟩
  rcases h4 with rfl | ⟨b', off', ha, hlt, hc⟩
  · exact .inl (by simp)
  · refine .inr ⟨b', off', ha, hlt, fun i row hi => hc i row ?_⟩
    rw [List.getElem?_take] at hi
    split at hi
    · exact hi
    · simp at hi
/-- What a slice of an array from a place on is. -/
theorem sl_drop {t e : TypeId} {n k : Nat} (hu : Tryd.prog.underlying t = some (.array n e)) (hz : ∀ wx, (sizeOf e).run Tryd.prog wx = .ok k wx) {w : World} {B off : Nat} {L : List (List Value)} (hR : Rows w k (some ⟨B, off, none⟩) n L) (hL : L.length = n) (m : Nat) (hm : m ≤ n) :
    ∃ ad, (∀ wx, (Instr.sliceAt t (.pointer (some ⟨B, off, none⟩)) (some (.int .i64 (m : Int))) none none).run Tryd.prog wx = .ok (.slice (some ad) (n - m) (n - m)) wx) ∧ Rows w k (some ad) (n - m) (L.drop m) := by
  by_cases c : n = m
  · refine ⟨⟨B, off, none⟩, fun wx => ?_, ?_⟩
    · subst c
      have q2 : ¬ ((n : Int) < 0) := by omega
      simp [Instr.sliceAt, Instr.sliceBounds, run_underlying hu, asIntOf, go_sem, hz, q2]
    · have : L.drop m = [] := by rw [List.drop_eq_nil_iff]; omega
      rw [this]
      exact ⟨by simp, by omega, by simp, .inl rfl⟩
  · refine ⟨⟨B, off + m * k, none⟩, fun wx => ?_, hR.drp m (by omega)⟩
    have q1 : (m : Int) ≤ n := by omega
    have q2 : ¬ ((m : Int) < 0) := by omega
    simp [Instr.sliceAt, Instr.sliceBounds, run_underlying hu, asIntOf, go_sem, hz, q1, q2, c, hm, add_none]
theorem sl_take {t e : TypeId} {n k : Nat} (hu : Tryd.prog.underlying t = some (.array n e)) (hz : ∀ wx, (sizeOf e).run Tryd.prog wx = .ok k wx) (B off : Nat) (hn : 0 < n) (m : Nat) (hm : m ≤ n) :
    ∀ wx, (Instr.sliceAt t (.pointer (some ⟨B, off, none⟩)) none (some (.int .i64 (m : Int))) none).run Tryd.prog wx = .ok (.slice (some ⟨B, off, none⟩) m n) wx := fun wx => by
  have q1 : (m : Int) ≤ n := by omega
  have q2 : ¬ ((m : Int) < 0) := by omega
  have q3 : ¬ n = 0 := by omega
  simp [Instr.sliceAt, Instr.sliceBounds, run_underlying hu, asIntOf, go_sem, hz, q1, q2, q3, hm, Addr.add]
theorem sl_all {t e : TypeId} {n k : Nat} (hu : Tryd.prog.underlying t = some (.array n e)) (hz : ∀ wx, (sizeOf e).run Tryd.prog wx = .ok k wx) (B off : Nat) (hn : 0 < n) :
    ∀ wx, (Instr.sliceAt t (.pointer (some ⟨B, off, none⟩)) none none none).run Tryd.prog wx = .ok (.slice (some ⟨B, off, none⟩) n n) wx := fun wx => by
  have q3 : ¬ n = 0 := by omega
  simp [Instr.sliceAt, Instr.sliceBounds, run_underlying hu, asIntOf, go_sem, hz, q3, Addr.add]
end Go.Proofs.YtofeohhnfnnifaaDoor.pg
/- Whether all of a list are zero: package state's blank. -/
namespace Go.Proofs.YtofeohhnfnnifaaDoor.pg
open Go.ChangeShapes Go.WideShapes Go.ChangeAt Go.RowKit
set_option linter.unusedVariables false
set_option linter.unusedSimpArgs false
set_option maxRecDepth 100000
theorem all_take_more {α : Type} {p : α → Prop} {l : List α} {k : Nat} {x : α} (h : ∀ y ∈ l.take k, p y) (hk : l[k]? = some x) (hx : p x) : ∀ y ∈ l.take (k + 1), p y := fun y hy => by
  rw [List.take_add_one, hk] at hy
  simp only [Option.toList, List.mem_append, List.mem_singleton] at hy
  rcases hy with q | q
  · exact h y q
  · rw [q]; exact hx
theorem ix64 {w : World} {a : Option Addr} {cap : Nat} {l : List Int} (h : Rows w 1 a cap (l.map chCells)) (i : Nat) (x : Int) (hi : l[i]? = some x) :
    ∃ b o, (∀ wx, (Instr.indexAt 93 (.slice a l.length cap) (.int .i64 (i : Int))).run Tryd.prog wx = .ok (.pointer (some ⟨b, o, none⟩)) wx) ∧ b < w.heap.size ∧ w.cell? ⟨b, o, none⟩ = some (.int .i64 x) := by
  obtain ⟨b, o, hr, hlt, hc⟩ := h.ix 93 2 Tryd.underlying93 (by kernel_rfl) (fun wx => Tryd.sizeOf2 wx) i (row := chCells x) (by simp [hi])
  rw [List.length_map] at hr
  exact ⟨b, o, hr, hlt, hc 0 _ rfl⟩
theorem ixGo {w : World} {a : Option Addr} {cap : Nat} {l : List Gr} (h : Rows w 12 a cap (l.map Gr.cells)) (i : Nat) (x : Gr) (hi : l[i]? = some x) :
    ∃ b o, (∀ wx, (Instr.indexAt 76 (.slice a l.length cap) (.int .i64 (i : Int))).run Tryd.prog wx = .ok (.pointer (some ⟨b, o, none⟩)) wx) ∧ b < w.heap.size ∧ w.rangeAt b o x.cells := by
  obtain ⟨b, o, hr, hlt, hc⟩ := h.ix 76 35 Tryd.underlying76 (by kernel_rfl) (fun wx => Tryd.sizeOf35 wx) i (row := x.cells) (by simp [hi])
  rw [List.length_map] at hr
  exact ⟨b, o, hr, hlt, hc⟩
theorem ixCh {w : World} {a : Option Addr} {cap : Nat} {l : List Chc} (h : Rows w 9 a cap (l.map Chc.cells)) (i : Nat) (x : Chc) (hi : l[i]? = some x) :
    ∃ b o, (∀ wx, (Instr.indexAt 96 (.slice a l.length cap) (.int .i64 (i : Int))).run Tryd.prog wx = .ok (.pointer (some ⟨b, o, none⟩)) wx) ∧ b < w.heap.size ∧ w.rangeAt b o x.cells := by
  obtain ⟨b, o, hr, hlt, hc⟩ := h.ix 96 32 Tryd.underlying96 (by kernel_rfl) (fun wx => Tryd.sizeOf32 wx) i (row := x.cells) (by simp [hi])
  rw [List.length_map] at hr
  exact ⟨b, o, hr, hlt, hc⟩
set_option maxHeartbeats 1000000 in
theorem blank_i64 (l : List Int) (a : Option Addr) (cap : Nat) (w : World) (hl : Rows w 1 a cap (l.map chCells)) (R : Bool) (hR : Hid (R = true ↔ ∀ x ∈ l, x = 0)) :
    Calls Tryd.prog 40 #[.slice a l.length cap] w fun e w' => e = .returned (.bool R) ∧ w' = w := by
  have hlI := rows_len hl
  have hlH : Hid (Rows w 1 a cap (l.map chCells)) := hl
  clear hl
  go_enter Tryd.func40, Tryd.ntmps40
  go_wp2
  go_loopw [8] (fun u wr => ∃ k : Nat, k ≤ l.length ∧ u = .int .i64 (k : Int) ∧ wr = w ∧ Hid (∀ x ∈ l.take k, x = 0)) (fun u _ => l.length - (intOf u).toNat)
  case atStart => exact ⟨0, Nat.zero_le _, rfl, rfl, fun x hx => by simp at hx⟩
  case round =>
    obtain ⟨k, hk, rfl, rfl, hz⟩ := hrel
    by_cases hlt : k < l.length
    · obtain ⟨x, hx, hm⟩ := get_lt l k hlt
      obtain ⟨b, o, hix, hb, hc⟩ := ix64 hlH.out k x hx
      have hkI : (k : Int) < l.length := by omega
      by_cases c : x = 0
      · have hz2 : Hid (∀ y ∈ l.take (k + 1), y = 0) := all_take_more hz.out hx c
        subst c
        clear hx hm hz
        go_wp2
        go_roundw
        case rel => exact ⟨k + 1, by omega, by go_num, trivial, hz2⟩
        case measure => simp [intOf]; omega
      · have hf : R = false := by
          rw [Bool.eq_false_iff]
          intro q
          exact c (hR.out.mp q x hm)
        subst hf
        have hne : (x != 0) = true := by simpa using c
        clear hR hx hm hz c
        go_wp2
        go_ret
        exact ⟨rfl, rfl⟩
    · have hkl : k = l.length := by omega
      have ht : R = true := hR.out.mpr fun x hx => hz.out x (by rw [hkl, List.take_length]; exact hx)
      subst ht
      have hkI : ¬ (k : Int) < l.length := by omega
      clear hR hz hkl
      go_wp2
      go_ret
      exact ⟨rfl, rfl⟩
set_option maxHeartbeats 1000000 in
theorem blank_int (l : List Int) (a : Option Addr) (cap : Nat) (w : World) (hl : Rows w 1 a cap (l.map chCells)) (R : Bool) (hR : Hid (R = true ↔ ∀ x ∈ l, x = 0)) :
    Calls Tryd.prog 41 #[.slice a l.length cap] w fun e w' => e = .returned (.bool R) ∧ w' = w := by
  have hlI := rows_len hl
  have hlH : Hid (Rows w 1 a cap (l.map chCells)) := hl
  clear hl
  go_enter Tryd.func41, Tryd.ntmps41
  go_wp2
  go_loopw [8] (fun u wr => ∃ k : Nat, k ≤ l.length ∧ u = .int .i64 (k : Int) ∧ wr = w ∧ Hid (∀ x ∈ l.take k, x = 0)) (fun u _ => l.length - (intOf u).toNat)
  case atStart => exact ⟨0, Nat.zero_le _, rfl, rfl, fun x hx => by simp at hx⟩
  case round =>
    obtain ⟨k, hk, rfl, rfl, hz⟩ := hrel
    by_cases hlt : k < l.length
    · obtain ⟨x, hx, hm⟩ := get_lt l k hlt
      obtain ⟨b, o, hix, hb, hc⟩ := ch_ix hlH.out k x hx
      have hkI : (k : Int) < l.length := by omega
      by_cases c : x = 0
      · have hz2 : Hid (∀ y ∈ l.take (k + 1), y = 0) := all_take_more hz.out hx c
        subst c
        clear hx hm hz
        go_wp2
        go_roundw
        case rel => exact ⟨k + 1, by omega, by go_num, trivial, hz2⟩
        case measure => simp [intOf]; omega
      · have hf : R = false := by
          rw [Bool.eq_false_iff]
          intro q
          exact c (hR.out.mp q x hm)
        subst hf
        have hne : (x != 0) = true := by simpa using c
        clear hR hx hm hz c
        go_wp2
        go_ret
        exact ⟨rfl, rfl⟩
    · have hkl : k = l.length := by omega
      have ht : R = true := hR.out.mpr fun x hx => hz.out x (by rw [hkl, List.take_length]; exact hx)
      subst ht
      have hkI : ¬ (k : Int) < l.length := by omega
      clear hR hz hkl
      go_wp2
      go_ret
      exact ⟨rfl, rfl⟩
theorem infoGw {g : Gr} (h : g.wf) : (Tryd.prog.info? 35).map (·.size) = some g.cells.toArray.size := infoG h.2.2.2.2.1
set_option maxHeartbeats 1000000 in
theorem blank_go (l : List Gr) (a : Option Addr) (cap : Nat) (w : World) (hl : Rows w 12 a cap (l.map Gr.cells)) (hw : ∀ x ∈ l, x.wf) (R : Bool) (hR : Hid (R = true ↔ ∀ x ∈ l, x = zeroG)) :
    Calls Tryd.prog 39 #[.slice a l.length cap] w fun e w' => e = .returned (.bool R) ∧ Below w.heap.size w w' := by
  have hlI := rows_len hl
  have hlH : Hid (Rows w 12 a cap (l.map Gr.cells)) := hl
  have hwH : Hid (∀ x ∈ l, x.wf) := hw
  clear hl hw
  have s0 : Hid (Below w.heap.size w (w.alloc (objG zeroG)) ∧ (w.alloc (objG zeroG)).heap[w.heap.size]? = some (objG zeroG)) := ⟨boxed _ _, heap_alloc_new w _⟩
  go_enter Tryd.func39, Tryd.ntmps39
  go_upto_region 2 with fail
  rw [show (Obj.cells #[.int .i64 0, .int .i64 0, .int .i64 0, .int .i64 0, .int .i64 0, .int .i64 0, .int .i64 0, .int .i64 0, .int .i64 0, .int .i64 0, .int .i64 0, .int .i64 0] 35) = objG zeroG from rfl]
  generalize w.alloc (objG zeroG) = W at *
  go_wp2_with fail
  go_loopw [8] (fun u wr => ∃ k : Nat, k ≤ l.length ∧ u = .int .i64 (k : Int) ∧ Hid (Below w.heap.size w wr ∧ wr.heap[w.heap.size]? = some (objG zeroG)) ∧ Hid (∀ x ∈ l.take k, x = zeroG)) (fun u _ => l.length - (intOf u).toNat)
  case atStart => exact ⟨0, Nat.zero_le _, rfl, s0, fun x hx => by simp at hx⟩
  case round =>
    clear s0
    obtain ⟨k, hk, rfl, hs, hz⟩ := hrel
    by_cases hlt : k < l.length
    · obtain ⟨x, hx, hm⟩ := get_lt l k hlt
      obtain ⟨b, o, hix, hb, hc0⟩ := ixGo hlH.out k x hx
      have hc : Hid (wr.rangeAt b o x.cells) := fun q v hv => (hs.out.1.cell (p := ⟨b, o + q, none⟩) hb).trans (hc0 q v hv)
      have hkI : (k : Int) < l.length := by omega
      have hwx := hwH.out x hm
      have hinf : Hid ((Tryd.prog.info? 35).map (·.size) = some x.cells.length) := by have := infoGw hwx; rwa [List.size_toArray] at this
      have hinfA : Hid ((Tryd.prog.info? 35).map (·.size) = some x.cells.toArray.size) := infoGw hwx
      have hu : Hid (Tryd.prog.underlying 35 = _) := Tryd.underlying35
      have hone := oneG x
      obtain ⟨ZI, hZ1, hZ2, _⟩ := zero_big (P := Tryd.prog) (t := 35) (n := 12) (by kernel_rfl)
      have hsz : Hid (ZI.size = x.cells.toArray.size) := by show _ = _; rw [hZ2, List.size_toArray, Gr.len hwx]
      have hzi : (wr.alloc (.cells ZI 35)).heap[wr.heap.size]? = some (.cells ZI 35) := heap_alloc_new wr _
      have hlw : w.heap.size < wr.heap.size := (Array.getElem?_eq_some_iff.mp hs.out.2).1
      have hb2 : Hid (Below w.heap.size w ((wr.alloc (.cells ZI 35)).setRow wr.heap.size x.cells.toArray)) := below_setRowG (bthen hs.out.1 (boxed _ _)) (by omega) _
      have hx2 : ((wr.alloc (.cells ZI 35)).setRow wr.heap.size x.cells.toArray).heap[wr.heap.size]? = some (objG x) := setRow_heap _ _ _ _ _ _ hzi
      have hz2 : ((wr.alloc (.cells ZI 35)).setRow wr.heap.size x.cells.toArray).heap[w.heap.size]? = some (objG zeroG) := (setRow_other _ _ _ _ (by omega)).trans (((boxed wr (.cells ZI 35)).block _ hlw).trans hs.out.2)
      have hxH : Hid (((wr.alloc (.cells ZI 35)).setRow wr.heap.size x.cells.toArray).heap[w.heap.size]? = some (objG zeroG)) := hz2
      clear hc0 hZ2
      by_cases c : x = zeroG
      · have hz3 : Hid (∀ y ∈ l.take (k + 1), y = zeroG) := all_take_more hz.out hx c
        have hne := ne_go hwx zeroG_wf false (by simp [c])
        have cH : Hid (x = zeroG) := c
        clear hx hm hz c hwx
        go_wp2_with (first
          | (refine wpList_load_mid rfl 35 _ rfl b o rfl x.cells _ hc.out hu.out rfl hinf.out ?_)
          | (refine wpList_alloc_big rfl 35 rfl hZ1 ?_)
          | (refine wpList_store_row rfl 35 _ _ rfl wr.heap.size x.cells.toArray rfl rfl _ _ hzi hinfA.out hsz.out hone ?_)
          | (refine wpList_load_row rfl 35 _ rfl wr.heap.size rfl _ _ _ _ hx2 hu.out rfl hinfA.out ?_)
          | (refine wpList_load_row rfl 35 _ rfl w.heap.size rfl _ _ _ _ hz2 hu.out rfl (by kernel_rfl) ?_))
        go_roundw
        case rel => exact ⟨k + 1, by omega, by go_num, ⟨hb2.out, hz2⟩, hz3⟩
        case measure => simp [intOf]; omega
      · have hf : R = false := by
          rw [Bool.eq_false_iff]
          intro q
          exact c (hR.out.mp q x hm)
        subst hf
        have hne := ne_go hwx zeroG_wf true (by simp [c])
        clear hR hx hm hz c hwx
        go_wp2_with (first
          | (refine wpList_load_mid rfl 35 _ rfl b o rfl x.cells _ hc.out hu.out rfl hinf.out ?_)
          | (refine wpList_alloc_big rfl 35 rfl hZ1 ?_)
          | (refine wpList_store_row rfl 35 _ _ rfl wr.heap.size x.cells.toArray rfl rfl _ _ hzi hinfA.out hsz.out hone ?_)
          | (refine wpList_load_row rfl 35 _ rfl wr.heap.size rfl _ _ _ _ hx2 hu.out rfl hinfA.out ?_)
          | (refine wpList_load_row rfl 35 _ rfl w.heap.size rfl _ _ _ _ hz2 hu.out rfl (by kernel_rfl) ?_))
        go_ret
        exact ⟨rfl, hb2.out⟩
    · have hkl : k = l.length := by omega
      have ht : R = true := hR.out.mpr fun x hx => hz.out x (by rw [hkl, List.take_length]; exact hx)
      subst ht
      have hkI : ¬ (k : Int) < l.length := by omega
      clear hR hz hkl
      go_wp2
      go_ret
      exact ⟨rfl, hs.out.1⟩
set_option maxHeartbeats 1000000 in
theorem blank_ch (l : List Chc) (a : Option Addr) (cap : Nat) (w : World) (hl : Rows w 9 a cap (l.map Chc.cells)) (hw : ∀ x ∈ l, x.wf) (R : Bool) (hR : Hid (R = true ↔ ∀ x ∈ l, x = zeroC)) :
    Calls Tryd.prog 42 #[.slice a l.length cap] w fun e w' => e = .returned (.bool R) ∧ Below w.heap.size w w' := by
  have hlI := rows_len hl
  have hlH : Hid (Rows w 9 a cap (l.map Chc.cells)) := hl
  have hwH : Hid (∀ x ∈ l, x.wf) := hw
  clear hl hw
  have s0 : Hid (Below w.heap.size w (w.alloc (objCh zeroC)) ∧ (w.alloc (objCh zeroC)).heap[w.heap.size]? = some (objCh zeroC)) := ⟨boxed _ _, heap_alloc_new w _⟩
  go_enter Tryd.func42, Tryd.ntmps42
  go_upto_region 2 with fail
  rw [show (Obj.cells #[.int .i64 0, .int .i64 0, .int .i64 0, .int .i64 0, .int .i64 0, .bool false, .int .i64 0, .int .i64 0, .int .i64 0] 32) = objCh zeroC from rfl]
  generalize w.alloc (objCh zeroC) = W at *
  go_wp2_with fail
  go_loopw [8] (fun u wr => ∃ k : Nat, k ≤ l.length ∧ u = .int .i64 (k : Int) ∧ Hid (Below w.heap.size w wr ∧ wr.heap[w.heap.size]? = some (objCh zeroC)) ∧ Hid (∀ x ∈ l.take k, x = zeroC)) (fun u _ => l.length - (intOf u).toNat)
  case atStart => exact ⟨0, Nat.zero_le _, rfl, s0, fun x hx => by simp at hx⟩
  case round =>
    clear s0
    obtain ⟨k, hk, rfl, hs, hz⟩ := hrel
    by_cases hlt : k < l.length
    · obtain ⟨x, hx, hm⟩ := get_lt l k hlt
      obtain ⟨b, o, hix, hb, hc0⟩ := ixCh hlH.out k x hx
      have hc : Hid (wr.rangeAt b o x.cells) := fun q v hv => (hs.out.1.cell (p := ⟨b, o + q, none⟩) hb).trans (hc0 q v hv)
      have hkI : (k : Int) < l.length := by omega
      have hwx := hwH.out x hm
      have hinf : Hid ((Tryd.prog.info? 32).map (·.size) = some x.cells.length) := by have := infoC hwx; rwa [List.size_toArray] at this
      have hinfA : Hid ((Tryd.prog.info? 32).map (·.size) = some x.cells.toArray.size) := infoC hwx
      have hu : Hid (Tryd.prog.underlying 32 = _) := Tryd.underlying32
      have hone := oneC x
      obtain ⟨ZI, hZ1, hZ2, _⟩ := zero_big (P := Tryd.prog) (t := 32) (n := 9) (by kernel_rfl)
      have hsz : Hid (ZI.size = x.cells.toArray.size) := by show _ = _; rw [hZ2, List.size_toArray, Chc.len hwx]
      have hzi : (wr.alloc (.cells ZI 32)).heap[wr.heap.size]? = some (.cells ZI 32) := heap_alloc_new wr _
      have hlw : w.heap.size < wr.heap.size := (Array.getElem?_eq_some_iff.mp hs.out.2).1
      have hb2 : Hid (Below w.heap.size w ((wr.alloc (.cells ZI 32)).setRow wr.heap.size x.cells.toArray)) := below_setRowG (bthen hs.out.1 (boxed _ _)) (by omega) _
      have hx2 : ((wr.alloc (.cells ZI 32)).setRow wr.heap.size x.cells.toArray).heap[wr.heap.size]? = some (objCh x) := setRow_heap _ _ _ _ _ _ hzi
      have hz2 : ((wr.alloc (.cells ZI 32)).setRow wr.heap.size x.cells.toArray).heap[w.heap.size]? = some (objCh zeroC) := (setRow_other _ _ _ _ (by omega)).trans (((boxed wr (.cells ZI 32)).block _ hlw).trans hs.out.2)
      have hxH : Hid (((wr.alloc (.cells ZI 32)).setRow wr.heap.size x.cells.toArray).heap[w.heap.size]? = some (objCh zeroC)) := hz2
      clear hc0 hZ2
      by_cases c : x = zeroC
      · have hz3 : Hid (∀ y ∈ l.take (k + 1), y = zeroC) := all_take_more hz.out hx c
        have hne := ne_ch hwx zeroC_wf false (by simp [c])
        have cH : Hid (x = zeroC) := c
        clear hx hm hz c hwx
        go_wp2_with (first
          | (refine wpList_load_mid rfl 32 _ rfl b o rfl x.cells _ hc.out hu.out rfl hinf.out ?_)
          | (refine wpList_alloc_big rfl 32 rfl hZ1 ?_)
          | (refine wpList_store_row rfl 32 _ _ rfl wr.heap.size x.cells.toArray rfl rfl _ _ hzi hinfA.out hsz.out hone ?_)
          | (refine wpList_load_row rfl 32 _ rfl wr.heap.size rfl _ _ _ _ hx2 hu.out rfl hinfA.out ?_)
          | (refine wpList_load_row rfl 32 _ rfl w.heap.size rfl _ _ _ _ hz2 hu.out rfl (by kernel_rfl) ?_))
        go_roundw
        case rel => exact ⟨k + 1, by omega, by go_num, ⟨hb2.out, hz2⟩, hz3⟩
        case measure => simp [intOf]; omega
      · have hf : R = false := by
          rw [Bool.eq_false_iff]
          intro q
          exact c (hR.out.mp q x hm)
        subst hf
        have hne := ne_ch hwx zeroC_wf true (by simp [c])
        clear hR hx hm hz c hwx
        go_wp2_with (first
          | (refine wpList_load_mid rfl 32 _ rfl b o rfl x.cells _ hc.out hu.out rfl hinf.out ?_)
          | (refine wpList_alloc_big rfl 32 rfl hZ1 ?_)
          | (refine wpList_store_row rfl 32 _ _ rfl wr.heap.size x.cells.toArray rfl rfl _ _ hzi hinfA.out hsz.out hone ?_)
          | (refine wpList_load_row rfl 32 _ rfl wr.heap.size rfl _ _ _ _ hx2 hu.out rfl hinfA.out ?_)
          | (refine wpList_load_row rfl 32 _ rfl w.heap.size rfl _ _ _ _ hz2 hu.out rfl (by kernel_rfl) ?_))
        go_ret
        exact ⟨rfl, hb2.out⟩
    · have hkl : k = l.length := by omega
      have ht : R = true := hR.out.mpr fun x hx => hz.out x (by rw [hkl, List.take_length]; exact hx)
      subst ht
      have hkI : ¬ (k : Int) < l.length := by omega
      clear hR hz hkl
      go_wp2
      go_ret
      exact ⟨rfl, hs.out.1⟩
end Go.Proofs.YtofeohhnfnnifaaDoor.pg
