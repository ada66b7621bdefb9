/- Events without what they touch of plain variables. -/
import Derived.Test.YtafefnkgdnmjbaaGreatDoorM31
import Derived.Test.YtafefnkgdnmjbaaGreatDoorM20
import Derived.Test.YtafefnkgdnmjbaaGreatDoorM23
namespace Go.Proofs.YtafefnkgdnmjbaaGreatDoor.pg
open Go.ChangeShapes Go.WideShapes Go.ChangeAt Go.RowKit Go.Shelf
set_option linter.unusedVariables false
set_option linter.unusedSimpArgs false
set_option maxRecDepth 100000
theorem wpList_mkRW {P : Program} (w : World) {ops : Array Oper} {rest : List Oper} {o : Oper} {a : Act} {Q : Exit → Act → World → Prop}
    (hg : o.guard = none) (l c : Operand) (t : TypeId) (hop : o.op = Op.makeSlice t l c)
    (e : TypeId) (i : TypeInfo) (z : Value) (k : Nat) (h1 : P.underlying t = some (.slice e)) (h2 : P.info? e = some i) (h3 : i.zero = some z) (h4 : i.size = k)
    (n : Nat) (hl : a.eval l = .int .i64 (n : Int)) (hc : a.eval c = .int .i64 (n : Int)) (b2 : i.bytes * n ≤ 281474976710656) (b3 : n ≤ 9223372036854775807)
    (hK : wpList P ops Q rest (a.put o.dst (.slice (some ⟨w.heap.size, 0, none⟩) n n)) (w.alloc (.cells (madeCells z.cells (n * k)) e))) :
    wpList P ops Q (o :: rest) a w := by
  refine wpList_plain hg fun K hK' => ?_
  have b2' : (i.bytes : Int) * (n : Int) ≤ 281474976710656 := by
    have h : ((i.bytes * n : Nat) : Int) ≤ 281474976710656 := by omega
    rwa [Int.natCast_mul] at h
  have hrun := run_make (P := P) w t e i z h1 h2 h3 .i64 .i64 (n : Int) (n : Int) (by omega) (by omega) b2' (by omega)
  rw [h4, Int.toNat_natCast] at hrun
  unfold Oper.wp
  simp [execOp, hop, hl, hc, hrun, Result.andThen]
  exact hK' _ _ hK
theorem rows_madeW (w : World) (n : Nat) (hn : n ≤ 256) (t : TypeId) : Rows (w.alloc (.cells (madeCells stEvZ.cells.toArray (n * 26)) t)) 26 (some ⟨w.heap.size, 0, none⟩) n (List.replicate n stEvZ.cells) := by
  refine ⟨by simp, by omega, by simp, .inr ⟨w.heap.size, 0, rfl, by simp [World.size_alloc], fun i row hi => ?_⟩⟩
  rw [List.getElem?_replicate] at hi
  split at hi
  · rename_i hlt
    cases hi
    refine ⟨rfl, fun j u hj => ?_⟩
    have hj26 : j < 26 := (List.getElem?_eq_some_iff.mp hj).1
    rw [Nat.zero_add, cell_of_row _ _ _ _ _ _ (heap_alloc_new w _)]
    have hb : i * 26 + j < n * 26 := by omega
    unfold madeCells
    rw [Array.getElem?_map, Array.getElem?_range, if_pos hb]
    have hm : (i * 26 + j) % stEvZ.cells.toArray.size = j := by
      show (i * 26 + j) % 26 = j
      omega
    have h9 : stEvZ.cells.toArray[j]! = stEvZ.cells[j]'hj26 := by
      rw [getElem!_pos stEvZ.cells.toArray j hj26]
      rfl
    simp only [Option.map_some, hm]
    rw [h9, ← hj, List.getElem?_eq_getElem hj26]
  · cases hi
theorem ix_madeW (A n : Nat) (j : Nat) (h : j < n) : ∀ wx, (Instr.indexAt 22 (.slice (some ⟨A, 0, none⟩) n n) (.int .i64 (j : Int))).run Tryz.prog wx = .ok (.pointer (some ⟨A, j * 26, none⟩)) wx := by
  intro wx
  have he : Tryz.prog.elem 22 = 69 := by kernel_rfl
  rw [run_indexAt_slice wx 22 ⟨A, 0, none⟩ _ _ _ _ (by rw [he]; exact Tryz.underlying22), if_pos (by omega), he, Tryz.sizeOf69 wx]
  simp only [Int.toNat_natCast]
  show Result.ok (Value.pointer (some ((⟨A, 0, none⟩ : Addr).add (j * 26)))) wx = _
  rw [add_none, Nat.zero_add]
theorem cells_keepW {B : Nat} {t : TypeId} : ∀ (vs : List Value) (o : Nat) (W : World) (cs : Array Value), W.heap[B]? = some (.cells cs t (0, 0)) → ∃ cs', (W.setCells B o vs).heap[B]? = some (.cells cs' t (0, 0)) ∧ cs'.size = cs.size
  | [], o, W, cs, h => ⟨cs, h, rfl⟩
  | v :: vs, o, W, cs, h => by
    simp only [World.setCells]
    rw [setCell_eq_setRow W B o _ _ _ v h]
    obtain ⟨cs', h1, h2⟩ := cells_keepW vs (o + 1) _ _ (setRow_heap W B _ (cs.setIfInBounds o v) _ _ h)
    exact ⟨cs', h1, by rw [h2, Array.size_setIfInBounds]⟩
theorem there_blockW {W : World} {B : Nat} {t : TypeId} {cs : Array Value} (h : W.heap[B]? = some (.cells cs t (0, 0))) {o k : Nat} (hk : o + k ≤ cs.size) : W.there B o k := fun j hj => ⟨by
  rw [cell_of_row W B (o + j) _ _ _ h, Array.getElem?_eq_getElem (by omega)]
  rfl, frozen_of_row _ _ _ _ _ h⟩
theorem infoEv3 : (Tryz.prog.info? 69).map (fun i => (i.zero, i.size, i.bytes)) = some (some (.agg stEvZ.cells.toArray), 26, 208) := by kernel_rfl
/-- Some cells of a row written over. -/
theorem rows_midW {w : World} {k g cap : Nat} {L : List (List Value)} (h : Rows w k (some ⟨g, 0, none⟩) cap L) {i : Nat} {row : List Value} (hi : L[i]? = some row) {o : Nat} {cs : List Value} (ho : o + cs.length ≤ k) (ht : w.there g (i * k + o) cs.length) : Rows (w.setCells g (i * k + o) cs) k (some ⟨g, 0, none⟩) cap (L.set i (row.take o ++ cs ++ row.drop (o + cs.length))) := by
  obtain ⟨h1, h2, h3, h4⟩ := h
  have hlt0 := (List.getElem?_eq_some_iff.mp hi).1
  rcases h4 with rfl | ⟨b, off, ha, hlt, hc⟩
  · simp at hlt0
  · simp only [Option.some.injEq, Addr.mk.injEq, and_true] at ha
    obtain ⟨rfl, rfl⟩ := ha
    refine ⟨by simpa using h1, h2, by simp, .inr ⟨g, 0, rfl, by rw [size_setCells]; exact hlt, fun q rw' hq => ?_⟩⟩
    rw [List.getElem?_set] at hq
    by_cases c : i = q
    · subst c
      rw [if_pos rfl, if_pos hlt0, Option.some.injEq] at hq
      subst hq
      obtain ⟨r1, r2⟩ := hc i row hi
      refine ⟨by simp; omega, fun j u hj => ?_⟩
      rw [Nat.zero_add]
      by_cases j1 : j < o
      · rw [World.cell?_setCells_out g cs (i * k + o) w]
        · rw [List.append_assoc, List.getElem?_append_left (by simp; omega), List.getElem?_take, if_pos j1] at hj
          have := r2 j u hj
          rwa [Nat.zero_add] at this
        · intro _ _
          show i * k + j < i * k + o ∨ _
          omega
      · by_cases j2 : j < o + cs.length
        · obtain ⟨m, rfl⟩ : ∃ m, j = o + m := ⟨j - o, by omega⟩
          rw [List.append_assoc, List.getElem?_append_right (by simp; omega), List.getElem?_append_left (by simp; omega)] at hj
          have hm : o + m - (List.take o row).length = m := by simp; omega
          rw [hm] at hj
          have hml := (List.getElem?_eq_some_iff.mp hj).1
          rw [show i * k + (o + m) = i * k + o + m by omega, World.cell?_setCells_in g cs (i * k + o) w (fun j hj => (ht j hj).1) m hml, ← hj, List.getElem?_eq_getElem hml]
        · rw [World.cell?_setCells_out g cs (i * k + o) w]
          · rw [List.getElem?_append_right (by simp; omega), List.getElem?_drop] at hj
            have hm : o + cs.length + (j - (List.take o row ++ cs).length) = j := by simp; omega
            rw [hm] at hj
            have := r2 j u hj
            rwa [Nat.zero_add] at this
          · intro _ _
            show i * k + j < i * k + o ∨ i * k + o + cs.length ≤ i * k + j
            omega
    · rw [if_neg c] at hq
      obtain ⟨r1, r2⟩ := hc q rw' hq
      refine ⟨r1, fun j u hj => ?_⟩
      rw [World.cell?_setCells_out g cs (i * k + o) w]
      · exact r2 j u hj
      · intro _ _
        show 0 + (q * k + j) < i * k + o ∨ i * k + o + cs.length ≤ 0 + (q * k + j)
        have hjl : j < k := by have := (List.getElem?_eq_some_iff.mp hj).1; omega
        rcases Nat.lt_or_gt_of_ne c with c | c
        · right
          have : (i + 1) * k ≤ q * k := Nat.mul_le_mul_right k c
          rw [Nat.add_mul] at this
          omega
        · left
          have : (q + 1) * k ≤ i * k := Nat.mul_le_mul_right k c
          rw [Nat.add_mul] at this
          omega
/-- An event with other accesses. -/
def mkE (x : Ev) (L : List Acc) : Ev := ⟨x.go, x.fn, x.pc, x.op, x.alt, x.vl, x.tag, L.getD 0 acc0, L.getD 1 acc0, L.getD 2 acc0, L.getD 3 acc0, L.getD 4 acc0, L.getD 5 acc0, L.length⟩
/-- What is left of an event's accesses. -/
def bareL (v : Nat → Bool) (x : Ev) (k : Nat) : List Acc := (x.of.take k).filter fun a => !hasP v a
def bareE (v : Nat → Bool) (x : Ev) : Ev := mkE x (bareL v x 6)
theorem bareL_len (v : Nat → Bool) (x : Ev) (k : Nat) : (bareL v x k).length ≤ k := Nat.le_trans (List.length_filter_le _ _) (by rw [List.length_take]; omega)
theorem bareL_more {v : Nat → Bool} {x : Ev} {k : Nat} {a : Acc} (h : x.of[k]? = some a) : bareL v x (k + 1) = bareL v x k ++ (if hasP v a = true then [] else [a]) := by
  unfold bareL
  rw [List.take_add_one, h, List.filter_append]
  congr 1
  cases hb : hasP v a <;> simp [List.filter, hb]
def zero18 : List Value := [.int .i64 0, .int .i64 0, .bool false, .int .i64 0, .int .i64 0, .bool false, .int .i64 0, .int .i64 0, .bool false, .int .i64 0, .int .i64 0, .bool false, .int .i64 0, .int .i64 0, .bool false, .int .i64 0, .int .i64 0, .bool false]
/-- Ahead of its number: zeroed accesses. -/
def midE (x : Ev) : Ev := ⟨x.go, x.fn, x.pc, x.op, x.alt, x.vl, x.tag, acc0, acc0, acc0, acc0, acc0, acc0, x.n⟩
theorem mid_cells (x : Ev) : (midE x).cells = x.cells.take 7 ++ zero18 ++ x.cells.drop (7 + zero18.length) := rfl
theorem zero_cells (x : Ev) : (mkE x []).cells = (midE x).cells.take 25 ++ [.int .i64 0] ++ (midE x).cells.drop (25 + [Value.int .i64 0].length) := rfl
/-- Ahead of its number: one access more. -/
def putE (x : Ev) (L : List Acc) (a : Acc) : Ev := { mkE x (L ++ [a]) with n := (L.length : Int) }
theorem put_cells (x : Ev) (L : List Acc) (a : Acc) (h : L.length < 6) : (putE x L a).cells = (mkE x L).cells.take (7 + L.length * 3) ++ a.cells ++ (mkE x L).cells.drop (7 + L.length * 3 + a.cells.length) := by
  match L, h with
  | [], _ => rfl
  | [_], _ => rfl
  | [_, _], _ => rfl
  | [_, _, _], _ => rfl
  | [_, _, _, _], _ => rfl
  | [_, _, _, _, _], _ => rfl
  | _ :: _ :: _ :: _ :: _ :: _ :: _, h => simp at h; omega
theorem num_cells (x : Ev) (L : List Acc) (a : Acc) : (mkE x (L ++ [a])).cells = (putE x L a).cells.take 25 ++ [.int .i64 ((L.length : Int) + 1)] ++ (putE x L a).cells.drop (25 + [Value.int .i64 ((L.length : Int) + 1)].length) := by
  have h : ((L ++ [a]).length : Int) = (L.length : Int) + 1 := by simp
  unfold putE mkE
  rw [h]
  rfl
/-- How without stands. -/
structure WoS (w W : World) (v : Nat → Bool) (n : Nat) (cur : List Ev) : Prop where
  r : Rows W 26 (some ⟨w.heap.size + 1, 0, none⟩) n (cur.map Ev.cells)
  c : ∃ cs, W.heap[w.heap.size + 1]? = some (.cells cs 69 (0, 0)) ∧ cs.size = n * 26
  v : W.heap[w.heap.size]? = some (objV v)
  b : Below w.heap.size w W
  len : cur.length = n
theorem WoS.later {w W W' : World} {v : Nat → Bool} {n : Nat} {cur : List Ev} (h : WoS w W v n cur) (hb : Below W.heap.size W W') : WoS w W' v n cur := by
  obtain ⟨cs, h1, h2⟩ := h.c
  exact ⟨h.r.later hb, ⟨cs, (hb.block _ (Array.getElem?_eq_some_iff.mp h1).1).trans h1, h2⟩, (hb.block _ (Array.getElem?_eq_some_iff.mp h.v).1).trans h.v, bthen h.b hb, h.len⟩
theorem set_other (g : Nat) : ∀ (vs : List Value) (o : Nat) (w : World) (b : Nat), b ≠ g → (w.setCells g o vs).heap[b]? = w.heap[b]?
  | [], _, _, _, _ => rfl
  | v :: vs, o, w, b, h => by simp only [World.setCells]; rw [set_other g vs (o + 1) _ b h]; exact Below.heap_setCell _ _ _ _ h
/-- Some cells of an event written over. -/
theorem WoS.mid {w W : World} {v : Nat → Bool} {n : Nat} {cur : List Ev} (h : WoS w W v n cur) {i : Nat} {x : Ev} (hi : cur[i]? = some x) (y : Ev) {o : Nat} {cs : List Value} (hy : y.cells = x.cells.take o ++ cs ++ x.cells.drop (o + cs.length)) (ho : o + cs.length ≤ 26) : W.there (w.heap.size + 1) (i * 26 + o) cs.length ∧ WoS w (W.setCells (w.heap.size + 1) (i * 26 + o) cs) v n (cur.set i y) := by
  obtain ⟨c0, hc, hs⟩ := h.c
  have hil := (List.getElem?_eq_some_iff.mp hi).1
  have hln := h.len
  have hm : (i + 1) * 26 ≤ n * 26 := Nat.mul_le_mul_right 26 (by omega)
  have ht : W.there (w.heap.size + 1) (i * 26 + o) cs.length := there_blockW hc (by omega)
  obtain ⟨cs', h1, h2⟩ := cells_keepW cs (i * 26 + o) W c0 hc
  refine ⟨ht, ?_, ⟨cs', h1, by omega⟩, (set_other _ _ _ _ _ (by omega)).trans h.v, below_setCells (by omega) _ _ _ _ h.b, by rw [List.length_set]; exact hln⟩
  have := rows_midW h.r (i := i) (row := x.cells) (by rw [List.getElem?_map, hi]; rfl) ho ht
  rw [← hy] at this
  rw [List.map_set]
  exact this
theorem WoS.cell {w W : World} {v : Nat → Bool} {n : Nat} {cur : List Ev} (h : WoS w W v n cur) {i : Nat} {x : Ev} (hi : cur[i]? = some x) {j : Nat} {u : Value} (hj : x.cells[j]? = some u) : W.cell? ⟨w.heap.size + 1, i * 26 + j, none⟩ = some u ∧ W.frozen? ⟨w.heap.size + 1, i * 26 + j, none⟩ = false := by
  obtain ⟨c0, hc, hs⟩ := h.c
  refine ⟨?_, frozen_of_row _ _ _ _ _ hc⟩
  obtain ⟨h1, h2, h3, h4⟩ := h.r
  have hil := (List.getElem?_eq_some_iff.mp hi).1
  rcases h4 with h4 | ⟨b, off, ha, hlt, hcc⟩
  · rw [List.map_eq_nil_iff] at h4; subst h4; simp at hil
  · simp only [Option.some.injEq, Addr.mk.injEq, and_true] at ha
    obtain ⟨rfl, rfl⟩ := ha
    have := (hcc i x.cells (by rw [List.getElem?_map, hi]; rfl)).2 j u hj
    rwa [Nat.zero_add] at this
/-- What is done: the first k events stand without. -/
def DoneW (v : Nat → Bool) (l cur : List Ev) (k : Nat) : Prop := ∀ i, i < k → cur[i]? = (l[i]?).map (bareE v)
theorem done_set {v : Nat → Bool} {l cur : List Ev} {k : Nat} (h : DoneW v l cur k) (y : Ev) : DoneW v l (cur.set k y) k := fun i hi => by rw [List.getElem?_set, if_neg (by omega)]; exact h i hi
theorem done_more {v : Nat → Bool} {l cur : List Ev} {k : Nat} {x : Ev} (h : DoneW v l cur k) (hx : l[k]? = some x) (hc : cur[k]? = some (bareE v x)) : DoneW v l cur (k + 1) := fun i hi => by
  by_cases e : i = k
  · subst e; rw [hc, hx]; rfl
  · exact h i (by omega)
theorem done_all {v : Nat → Bool} {l cur : List Ev} (h : DoneW v l cur l.length) (hl : cur.length = l.length) : cur = l.map (bareE v) := by
  refine List.ext_getElem? fun i => ?_
  rw [List.getElem?_map]
  by_cases hi : i < l.length
  · exact h i hi
  · rw [List.getElem?_eq_none (by omega), List.getElem?_eq_none (by omega)]; rfl
end Go.Proofs.YtafefnkgdnmjbaaGreatDoor.pg
/- Package race's without. -/
namespace Go.Proofs.YtafefnkgdnmjbaaGreatDoor.pg
open Go.ChangeShapes Go.WideShapes Go.ChangeAt Go.RowKit Go.Shelf
set_option linter.unusedVariables false
set_option linter.unusedSimpArgs false
set_option maxRecDepth 100000
attribute [local go_sem ↓] Go.wp_at_zero Go.wp_at_succ
theorem ix_acc (B o m : Nat) (h : m < 6) : ∀ wx, (Instr.indexAt 67 (.pointer (some ⟨B, o, none⟩)) (.int .i64 (m : Int))).run Tryz.prog wx = .ok (.pointer (some ⟨B, o + m * 3, none⟩)) wx := by
  match m, h with
  | 0, _ => exact fun _ => by kernel_rfl
  | 1, _ => exact fun _ => by kernel_rfl
  | 2, _ => exact fun _ => by kernel_rfl
  | 3, _ => exact fun _ => by kernel_rfl
  | 4, _ => exact fun _ => by kernel_rfl
  | 5, _ => exact fun _ => by kernel_rfl
theorem info18 : (Tryz.prog.info? 67).map (·.size) = some 18 := by kernel_rfl
theorem infoA3 : (Tryz.prog.info? 66).map (·.size) = some 3 := by kernel_rfl
set_option maxHeartbeats 4000000 in
theorem without_any (v : Nat → Bool) (l : List Ev) (la : Option Addr) (lc : Nat) (w : World) (hl : Rows w 26 la lc (l.map Ev.cells)) (hlen : l.length ≤ 256) (hrt : ∀ x ∈ l, rightP x) :
    Calls Tryz.prog 60 #[.agg (boolRow 8 v), .slice la l.length lc] w fun e w' => e = .returned (.slice (some ⟨w.heap.size + 1, 0, none⟩) l.length l.length) ∧ Rows w' 26 (some ⟨w.heap.size + 1, 0, none⟩) l.length ((l.map (bareE v)).map Ev.cells) ∧ Below w.heap.size w w' := by
  obtain ⟨iE, hiE, hzE, hsE, hbE⟩ := info_q infoEv3
  have hiH : Hid (Tryz.prog.info? 69 = some iE ∧ iE.zero = some (.agg stEvZ.cells.toArray) ∧ iE.size = 26 ∧ iE.bytes * l.length ≤ 281474976710656) := ⟨hiE, hzE, hsE, by rw [hbE]; omega⟩
  have hlI : (l.length : Int) ≤ 256 := by omega
  have hlH : Hid (Rows w 26 la lc (l.map Ev.cells)) := hl
  have hrH : Hid (∀ x ∈ l, rightP x) := hrt
  have huV : Hid (Tryz.prog.underlying 86 = _) := Tryz.underlying86
  have huE : Hid (Tryz.prog.underlying 69 = _) := Tryz.underlying69
  clear hiE hzE hsE hbE hl hrt
  go_enter Tryz.func60, Tryz.ntmps60
  go_wp2_with (refine wpList_mkRW _ rfl _ _ 22 rfl 69 iE (.agg stEvZ.cells.toArray) 26 Tryz.underlying22 hiH.out.1 hiH.out.2.1 hiH.out.2.2.1 l.length rfl rfl hiH.out.2.2.2 (by omega) ?_)
  have h0 : Hid (WoS w ((w.alloc (objV v)).alloc (.cells (madeCells stEvZ.cells.toArray (l.length * 26)) 69)) v l.length (List.replicate l.length stEvZ)) := by
    have hr := rows_madeW (w.alloc (objV v)) l.length hlen 69
    have hn := heap_alloc_new (w.alloc (objV v)) (.cells (madeCells stEvZ.cells.toArray (l.length * 26)) 69)
    rw [World.size_alloc] at hr hn
    exact ⟨by rw [List.map_replicate]; exact hr, ⟨_, hn, size_madeCells _ _⟩, ((boxed _ _).block _ (by rw [World.size_alloc]; omega)).trans (heap_alloc_new w _), bthen (boxed _ _) (boxed _ _), List.length_replicate⟩
  clear hiH
  generalize (w.alloc (objV v)).alloc (.cells (madeCells stEvZ.cells.toArray (l.length * 26)) 69) = W0 at *
  go_loopw [15] (fun u wr => ∃ k : Nat, k ≤ l.length ∧ u = .int .i64 (k : Int) ∧ Hid (∃ cur, WoS w wr v l.length cur ∧ DoneW v l cur k)) (fun u _ => l.length - (intOf u).toNat)
  case atStart => exact ⟨0, Nat.zero_le _, rfl, _, h0.out, fun i hi => by omega⟩
  case round =>
    clear h0
    obtain ⟨k, hk, rfl, hs⟩ := hrel
    by_cases hlt : k < l.length
    · have hkI : (k : Int) < l.length := by omega
      obtain ⟨cur, hw, hd⟩ := hs.out
      obtain ⟨x, hx⟩ : ∃ x, l[k]? = some x := ⟨_, List.getElem?_eq_getElem hlt⟩
      have hxr : Hid (rightP x) := hrH.out x (List.mem_of_getElem? hx)
      obtain ⟨b0, o0, xi, hbl, hrg⟩ := ev_at l la lc (hlH.out.later hw.b) hx
      have hrgH : Hid (wr.rangeAt b0 o0 x.cells) := hrg
      have ixk := ix_madeW (w.heap.size + 1) l.length k hlt
      obtain ⟨W1, hW1⟩ : ∃ W1, W1 = wr.alloc (objEv x) := ⟨_, rfl⟩
      have hw1 : WoS w W1 v l.length cur := by rw [hW1]; exact hw.later (boxed _ _)
      have hbx1 : W1.heap[wr.heap.size]? = some (objEv x) := by rw [hW1]; exact heap_alloc_new _ _
      have hgt : w.heap.size + 1 < wr.heap.size := by obtain ⟨_, q, _⟩ := hw.c; exact (Array.getElem?_eq_some_iff.mp q).1
      obtain ⟨y0, hy0⟩ : ∃ y0, cur[k]? = some y0 := ⟨_, List.getElem?_eq_getElem (by rw [hw.len]; exact hlt)⟩
      have p1 : Hid (W1.there (w.heap.size + 1) (k * 26) 26 ∧ WoS w (W1.setCells (w.heap.size + 1) (k * 26) x.cells) v l.length (cur.set k x)) := by
        have := hw1.mid hy0 x (o := 0) (cs := x.cells) (by rw [List.take_zero, List.nil_append, List.drop_eq_nil_of_le (by show 26 ≤ _; exact Nat.le_refl _), List.append_nil]) (by show 0 + 26 ≤ 26; omega)
        exact this
      obtain ⟨W2, hW2⟩ : ∃ W2, W2 = W1.setCells (w.heap.size + 1) (k * 26) x.cells := ⟨_, rfl⟩
      have hb2 : W2.heap[wr.heap.size]? = some (objEv x) := by rw [hW2]; exact (set_other _ _ _ _ _ (by omega)).trans hbx1
      have hk2 : (cur.set k x)[k]? = some x := by rw [List.getElem?_set, if_pos rfl, if_pos (by rw [hw.len]; exact hlt)]
      have p2 : Hid (W2.there (w.heap.size + 1) (k * 26 + 7) 18 ∧ WoS w (W2.setCells (w.heap.size + 1) (k * 26 + 7) zero18) v l.length ((cur.set k x).set k (midE x))) := by
        rw [← hW2] at p1
        exact p1.out.2.mid hk2 (midE x) (mid_cells x) (by show 7 + 18 ≤ 26; omega)
      obtain ⟨W3, hW3⟩ : ∃ W3, W3 = W2.setCells (w.heap.size + 1) (k * 26 + 7) zero18 := ⟨_, rfl⟩
      have hb3 : W3.heap[wr.heap.size]? = some (objEv x) := by rw [hW3]; exact (set_other _ _ _ _ _ (by omega)).trans hb2
      have hk3 : ((cur.set k x).set k (midE x))[k]? = some (midE x) := by rw [List.getElem?_set, if_pos rfl, if_pos (by rw [List.length_set, hw.len]; exact hlt)]
      have p3 : Hid (WoS w W3 v l.length ((cur.set k x).set k (midE x))) := by rw [hW3]; exact p2.out.2
      obtain ⟨cn, fn⟩ := p3.out.cell hk3 (j := 25) rfl
      have p4 : Hid (∀ W', W' = W3.setCell ⟨w.heap.size + 1, k * 26 + 25, none⟩ (.int .i64 0) → W'.heap[wr.heap.size]? = some (objEv x) ∧ ∃ cur', WoS w W' v l.length cur' ∧ DoneW v l cur' k ∧ cur'[k]? = some (mkE x (bareL v x 0))) := fun W' e => by
        have h1 := p3.out.mid hk3 (mkE x []) (o := 25) (cs := [.int .i64 0]) (zero_cells x) (by show 25 + 1 ≤ 26; omega)
        rw [e]
        refine ⟨(Below.heap_setCell _ _ _ _ (by show wr.heap.size ≠ w.heap.size + 1; omega)).trans hb3, _, h1.2, done_set (done_set (done_set hd _) _) _, ?_⟩
        rw [List.getElem?_set, if_pos rfl, if_pos (by rw [List.length_set, List.length_set, hw.len]; exact hlt)]
        rfl
      have hW1H : Hid _ := hW1
      have hW2H : Hid _ := hW2
      have hW3H : Hid _ := hW3
      obtain ⟨N, hN⟩ : ∃ N : Nat, x.n = (N : Int) := ⟨x.n.toNat, by have := hxr.out.1; omega⟩
      have hNr : Hid (1 ≤ N ∧ N ≤ 6 ∧ x.of.length = N ∧ tN x.n = N) := by
        have h1 := hxr.out.1
        have h2 := tN_eq h1.2.2.1 h1.2.2.2
        exact ⟨by omega, by omega, by rw [Ev.of_len]; omega, by omega⟩
      have sN := (slice_two wr.heap.size N hNr.out.1 hNr.out.2.1).1
      have hNI : (N : Int) ≤ 6 := by have := hNr.out; omega
      have hNx : Hid (x.n = (N : Int)) := hN
      have hone : Hid (x.cells.toArray.all (·.oneCell') = true ∧ (Tryz.prog.info? 69).map (·.size) = some x.cells.toArray.size) := ⟨ev_one x, infoE_ev x⟩
      have hbH : Hid (W1.heap[wr.heap.size]? = some (objEv x)) := hbx1
      have hxk : Hid (l[k]? = some x) := hx
      clear hs hw hd hrg hw1 hbx1 hb2 hk2 hb3 hk3 hy0 hW1 hW2 hW3 hbl hx hN
      go_wp2_with (first
        | (refine wpList_load_mid rfl 69 _ rfl b0 o0 rfl x.cells _ hrgH.out huE.out rfl infoE26 ?_)
        | (refine wpList_store_new rfl 69 _ _ rfl rfl _ x.cells.toArray rfl (by kernel_rfl) rfl (ev_one x) ?_; rw [← hW1H.out])
        | (refine wpList_load_row rfl 69 _ rfl wr.heap.size rfl _ _ _ _ hbH.out huE.out rfl (infoEvR x) ?_)
        | (refine wpList_store_mid rfl 69 _ _ rfl (w.heap.size + 1) (k * 26) x.cells.toArray rfl rfl p1.out.1 hone.out.2 hone.out.1 ?_; rw [← hW2H.out])
        | (refine wpList_store_mid rfl 67 _ _ rfl (w.heap.size + 1) (k * 26 + 7) zero18.toArray rfl rfl p2.out.1 info18 (by kernel_rfl) ?_; rw [← hW3H.out])
        | (refine wpList_puti rfl 3 _ _ rfl ⟨w.heap.size + 1, k * 26 + 25, none⟩ rfl 0 rfl (by kernel_rfl) _ cn fn fun W' hW' => ?_; (have p5 : Hid _ := p4.out W' hW'); (have kn : W'.cell? ⟨wr.heap.size, 25, none⟩ = some (.int .i64 (N : Int)) := by (rw [← hNx.out]; exact (box_of p5.out.1).at 25 _ rfl)); clear hW'))
      generalize wr.heap.size = Bx at *
      have hin0 : Hid (W'.heap[Bx]? = some (objEv x) ∧ ∃ cur', WoS w W' v l.length cur' ∧ DoneW v l cur' k ∧ cur'[k]? = some (mkE x (bareL v x 0))) := p5.out
      have hall : Hid (bareE v x = mkE x (bareL v x N)) := by
        show _ = _
        unfold bareE bareL
        rw [List.take_of_length_le (by have := hNr.out; omega), List.take_of_length_le (by have := hNr.out; omega)]
      clear p1 p2 p3 p4 p5 kn sN cn fn hW1H hW2H hW3H hbH hrgH xi hone
      go_loopw [38] (fun u wq => ∃ m : Nat, m ≤ N ∧ u = .int .i64 (m : Int) ∧ Hid (wq.heap[Bx]? = some (objEv x) ∧ ∃ cur', WoS w wq v l.length cur' ∧ DoneW v l cur' k ∧ cur'[k]? = some (mkE x (bareL v x m)))) (fun u _ => N - (intOf u).toNat)
      case atStart => exact ⟨0, Nat.zero_le _, rfl, hin0⟩
      case round =>
        clear hin0
        obtain ⟨m, hm, rfl, hq⟩ := hrel
        by_cases hmn : m < N
        · have hmI : (m : Int) < N := by omega
          have hm6 : m < 6 := by omega
          obtain ⟨a, ha⟩ : ∃ a, x.of[m]? = some a := ⟨_, List.getElem?_eq_getElem (by have := hNr.out; omega)⟩
          have hal : x.list[m]? = some a := by rw [← of_at (by have := hNr.out; omega)]; exact ha
          have hnum : Hid (a.kind = 1 → 0 ≤ a.num ∧ a.num < 8) := fun h1 => by
            have := (hxr.out.2.1 m (by have := hNr.out; omega) a hal).1
            rw [h1] at this
            exact this
          obtain ⟨b1, o1, hix, hbl, k0, k1, k2⟩ := acc_ix (rowsE (box_of hq.out.1)) m a ha
          rw [hNr.out.2.2.1] at hix
          have cH : ∀ wx, Calls Tryz.prog 96 #[.agg (boolRow 8 v), a.val] wx fun e w' => e = .returned (.bool (hasP v a)) ∧ Below wx.heap.size wx w' := fun wx => has_any v a wx hnum.out _ rfl
          have hmore := bareL_more (v := v) ha
          have hM := bareL_len v x m
          have hq1 : Hid ((wr.alloc (objA a)).heap[Bx]? = some (objEv x) ∧ (wr.alloc (objA a)).heap[wr.heap.size]? = some (objA a) ∧ (∃ cur', WoS w (wr.alloc (objA a)) v l.length cur' ∧ DoneW v l cur' k ∧ cur'[k]? = some (mkE x (bareL v x m)))) := by
            obtain ⟨q1, cur', q2, q3, q4⟩ := hq.out
            exact ⟨((boxed _ _).block _ (Array.getElem?_eq_some_iff.mp q1).1).trans q1, heap_alloc_new _ _, cur', q2.later (boxed _ _), q3, q4⟩
          have hv1 : Hid ((wr.alloc (objA a)).heap[w.heap.size]? = some (objV v)) := by obtain ⟨_, _, cur', q2, _⟩ := hq1.out; exact q2.v
          clear hq hbl
          cases hh : hasP v a with
          | true =>
            rw [hh] at cH
            have hst : Hid (bareL v x (m + 1) = bareL v x m) := by show _ = _; rw [hmore, hh]; simp
            clear hmore hh
            go_wp2_with (first
              | (refine wpList_load_row rfl 86 _ rfl w.heap.size rfl _ _ _ _ hv1.out huV.out rfl (infoPl _) ?_)
              | (go_at_call 96; (refine (cH _).mono ?_); rintro e w2 ⟨rfl, hb2⟩; (have hq2 : Hid (w2.heap[Bx]? = some (objEv x) ∧ ∃ cur', WoS w w2 v l.length cur' ∧ DoneW v l cur' k ∧ cur'[k]? = some (mkE x (bareL v x (m + 1)))) := by (obtain ⟨q1, _, cur', q2, q3, q4⟩ := hq1.out; rw [hst.out]; exact ⟨(hb2.block _ (Array.getElem?_eq_some_iff.mp q1).1).trans q1, cur', q2.later hb2, q3, q4⟩)); clear hb2))
            go_roundw
            case rel => exact ⟨m + 1, by omega, by go_num, hq2⟩
            case measure => simp [intOf]; omega
          | false =>
            rw [hh] at cH
            have hst : Hid (bareL v x (m + 1) = bareL v x m ++ [a]) := by show _ = _; rw [hmore, hh]; simp
            clear hmore hh
            obtain ⟨L, hL⟩ : ∃ L, bareL v x m = L := ⟨_, rfl⟩
            rw [hL] at hM hst hq1
            have hL6 : L.length < 6 := by omega
            obtain ⟨M, hMe⟩ : ∃ M : Nat, L.length = M := ⟨_, rfl⟩
            have hMH : Hid (L.length = M ∧ M < 6) := ⟨hMe, by omega⟩
            have ixm := ix_acc (w.heap.size + 1) (k * 26 + 7) M (by omega)
            have hwM : wrap64 ((M : Int) + 1) = (M : Int) + 1 := by unfold wrap64; omega
            clear hL hM hL6 hMe
            go_wp2_with (first
              | (refine wpList_load_row rfl 86 _ rfl w.heap.size rfl _ _ _ _ hv1.out huV.out rfl (infoPl _) ?_)
              | (go_at_call 96; (refine (cH _).mono ?_); rintro e w2 ⟨rfl, hb2⟩; (have hq2 : Hid (w2.drew.heap[Bx]? = some (objEv x) ∧ w2.drew.heap[wr.heap.size]? = some (objA a) ∧ (∃ cur', WoS w w2.drew v l.length cur' ∧ DoneW v l cur' k ∧ cur'[k]? = some (mkE x L))) := by (obtain ⟨q1, q0, cur', q2, q3, q4⟩ := hq1.out; exact ⟨(hb2.block _ (Array.getElem?_eq_some_iff.mp q1).1).trans q1, (hb2.block _ (Array.getElem?_eq_some_iff.mp q0).1).trans q0, cur', (q2.later hb2).later (bey_drew _), q3, q4⟩)); clear hb2))
            obtain ⟨hb5, ha5, cur', hw5, hd5, hc5⟩ := hq2.out
            have hg5 : w.heap.size + 1 < w2.heap.size := by obtain ⟨_, q, _⟩ := hw5.c; exact (Array.getElem?_eq_some_iff.mp q).1
            obtain ⟨cn, fn⟩ := hw5.cell hc5 (j := 25) (u := .int .i64 (M : Int)) (by show some (Value.int .i64 ((L.length : Nat) : Int)) = _; rw [hMH.out.1])
            obtain ⟨ht6, hw6⟩ := hw5.mid hc5 (putE x L a) (o := 7 + L.length * 3) (cs := a.cells) (put_cells x L a (by have := hMH.out; omega)) (by have := hMH.out; show 7 + L.length * 3 + 3 ≤ 26; omega)
            rw [hMH.out.1, ← Nat.add_assoc] at ht6 hw6
            have hbne : wr.heap.size ≠ w.heap.size + 1 := by obtain ⟨_, _, cu, q2, _⟩ := hq1.out; obtain ⟨cs, q, _⟩ := q2.c; intro e; have e2 := hq1.out.2.1; rw [e] at e2; rw [q] at e2; cases e2
            have hk6 : (cur'.set k (putE x L a))[k]? = some (putE x L a) := by rw [List.getElem?_set, if_pos rfl, if_pos (by rw [hw5.len]; exact hlt)]
            obtain ⟨W6, hW6⟩ : ∃ W6, W6 = w2.drew.setCells (w.heap.size + 1) (k * 26 + 7 + M * 3) a.cells := ⟨_, rfl⟩
            rw [← hW6] at hw6
            obtain ⟨cn6, fn6⟩ := hw6.cell hk6 (j := 25) (u := .int .i64 (M : Int)) (by show some (Value.int .i64 ((L.length : Nat) : Int)) = _; rw [hMH.out.1])
            have ha6 : W6.heap[wr.heap.size]? = some (objA a) := by rw [hW6]; exact (set_other _ _ _ _ _ hbne).trans ha5
            have hb6 : W6.heap[Bx]? = some (objEv x) := by rw [hW6]; exact (set_other _ _ _ _ _ (by omega)).trans hb5
            have p7 : Hid (∀ W', W' = W6.setCell ⟨w.heap.size + 1, k * 26 + 25, none⟩ (.int .i64 ((M : Int) + 1)) → W'.heap[Bx]? = some (objEv x) ∧ ∃ cur', WoS w W' v l.length cur' ∧ DoneW v l cur' k ∧ cur'[k]? = some (mkE x (bareL v x (m + 1)))) := fun W' e => by
              have h1 := hw6.mid hk6 (mkE x (L ++ [a])) (o := 25) (cs := [.int .i64 ((L.length : Int) + 1)]) (num_cells x L a) (by show 25 + 1 ≤ 26; omega)
              rw [hMH.out.1] at h1
              rw [e]
              refine ⟨(Below.heap_setCell _ _ _ _ (by show Bx ≠ w.heap.size + 1; omega)).trans hb6, _, h1.2, done_set (done_set hd5 _) _, ?_⟩
              rw [List.getElem?_set, if_pos rfl, if_pos (by rw [List.length_set, hw5.len]; exact hlt), hst.out]
            have hS5 : Hid (w2.drew.heap[wr.heap.size]? = some (objA a) ∧ w2.drew.cell? ⟨w.heap.size + 1, k * 26 + 25, none⟩ = some (.int .i64 (M : Int))) := ⟨ha5, cn⟩
            have hS6 : Hid (W6.heap[wr.heap.size]? = some (objA a) ∧ W6.cell? ⟨w.heap.size + 1, k * 26 + 25, none⟩ = some (.int .i64 (M : Int))) := ⟨ha6, cn6⟩
            have ht6H : Hid (w2.drew.there (w.heap.size + 1) (k * 26 + 7 + M * 3) a.cells.toArray.size) := ht6
            have hW6H : Hid _ := hW6
            generalize wr.heap.size = Ba at *
            clear hq1 hq2 hb5 ha5 hw5 hd5 hc5 hw6 cn fn ht6 ha6 hb6 hW6 hk6 cH hv1 k0 k1 k2 hix
            refine wp_region_noPanic ?_
            refine wp_region_held_drew (S := fun w' => w'.heap[Ba]? = some (objA a) ∧ w'.cell? ⟨w.heap.size + 1, k * 26 + 25, none⟩ = some (.int .i64 (M : Int))) (by kernel_rfl) hS5.out (fun _ => ?_)
            refine reg_move (i := 0) rfl (by kernel_rfl) (by kernel_rfl) (by kernel_rfl) (fun _ _ _ _ h => h) rfl (.slice (some ⟨w.heap.size + 1, 0, none⟩) l.length l.length) (fun _ => rfl) hS5.out ?_
            simp only [Act.put, List.getElem_toArray, List.getElem_cons_succ, List.getElem_cons_zero, List.setIfInBounds_toArray, List.set_cons_zero, List.set_cons_succ]
            refine reg_move (i := 1) rfl (by kernel_rfl) (by kernel_rfl) (by kernel_rfl) (fun _ _ _ _ h => h) rfl (.int .i64 (k : Int)) (fun _ => rfl) hS5.out ?_
            simp only [Act.put, List.getElem_toArray, List.getElem_cons_succ, List.getElem_cons_zero, List.setIfInBounds_toArray, List.set_cons_zero, List.set_cons_succ]
            refine reg_move (i := 2) rfl (by kernel_rfl) (by kernel_rfl) (by kernel_rfl) (fun _ _ _ _ h => h) rfl (.slice (some ⟨w.heap.size + 1, 0, none⟩) l.length l.length) (fun _ => rfl) hS5.out ?_
            simp only [Act.put, List.getElem_toArray, List.getElem_cons_succ, List.getElem_cons_zero, List.setIfInBounds_toArray, List.set_cons_zero, List.set_cons_succ]
            refine reg_move (i := 3) rfl (by kernel_rfl) (by kernel_rfl) (by kernel_rfl) (fun _ _ _ _ h => h) rfl (.int .i64 (k : Int)) (fun _ => rfl) hS5.out ?_
            simp only [Act.put, List.getElem_toArray, List.getElem_cons_succ, List.getElem_cons_zero, List.setIfInBounds_toArray, List.set_cons_zero, List.set_cons_succ]
            refine reg_move (i := 4) rfl (by kernel_rfl) (by kernel_rfl) (by kernel_rfl) (fun _ _ _ _ h => h) rfl (.pointer (some ⟨w.heap.size + 1, k * 26, none⟩)) (fun wx => by unfold execOp; exact run_value_of (ixk wx)) hS5.out ?_
            simp only [Act.put, List.getElem_toArray, List.getElem_cons_succ, List.getElem_cons_zero, List.setIfInBounds_toArray, List.set_cons_zero, List.set_cons_succ]
            refine reg_move (i := 5) rfl (by kernel_rfl) (by kernel_rfl) (by kernel_rfl) (fun _ _ _ _ h => h) rfl (.pointer (some ⟨w.heap.size + 1, k * 26 + 25, none⟩)) (fun _ => by kernel_rfl) hS5.out ?_
            simp only [Act.put, List.getElem_toArray, List.getElem_cons_succ, List.getElem_cons_zero, List.setIfInBounds_toArray, List.set_cons_zero, List.set_cons_succ]
            refine reg_load1 (i := 6) rfl (by kernel_rfl) (by kernel_rfl) (by kernel_rfl) (fun _ _ _ _ h => h) rfl 3 _ rfl ⟨w.heap.size + 1, k * 26 + 25, none⟩ rfl _ Tryz.underlying3 rfl (.int .i64 (M : Int)) (fun w' h' => h'.2) hS5.out ?_
            simp only [Act.put, List.getElem_toArray, List.getElem_cons_succ, List.getElem_cons_zero, List.setIfInBounds_toArray, List.set_cons_zero, List.set_cons_succ]
            refine reg_load (i := 7) rfl (by kernel_rfl) (by kernel_rfl) (by kernel_rfl) (fun _ _ _ _ h => h) rfl 66 _ rfl Ba 0 rfl a.cells _ (fun w' h' => range_ofR (l := a.cells) h'.1) Tryz.underlying66 rfl infoA3 hS5.out ?_
            simp only [Act.put, List.getElem_toArray, List.getElem_cons_succ, List.getElem_cons_zero, List.setIfInBounds_toArray, List.set_cons_zero, List.set_cons_succ]
            refine reg_move (i := 8) rfl (by kernel_rfl) (by kernel_rfl) (by kernel_rfl) (fun _ _ _ _ h => h) rfl (.pointer (some ⟨w.heap.size + 1, k * 26, none⟩)) (fun wx => by unfold execOp; exact run_value_of (ixk wx)) hS5.out ?_
            simp only [Act.put, List.getElem_toArray, List.getElem_cons_succ, List.getElem_cons_zero, List.setIfInBounds_toArray, List.set_cons_zero, List.set_cons_succ]
            refine reg_move (i := 9) rfl (by kernel_rfl) (by kernel_rfl) (by kernel_rfl) (fun _ _ _ _ h => h) rfl (.pointer (some ⟨w.heap.size + 1, k * 26 + 7, none⟩)) (fun _ => by kernel_rfl) hS5.out ?_
            simp only [Act.put, List.getElem_toArray, List.getElem_cons_succ, List.getElem_cons_zero, List.setIfInBounds_toArray, List.set_cons_zero, List.set_cons_succ]
            refine reg_move (i := 10) rfl (by kernel_rfl) (by kernel_rfl) (by kernel_rfl) (fun _ _ _ _ h => h) rfl (.pointer (some ⟨w.heap.size + 1, k * 26 + 7 + M * 3, none⟩)) (fun wx => by unfold execOp; exact run_value_of (ixm wx)) hS5.out ?_
            simp only [Act.put, List.getElem_toArray, List.getElem_cons_succ, List.getElem_cons_zero, List.setIfInBounds_toArray, List.set_cons_zero, List.set_cons_succ]
            refine reg_one (i := 11) (by kernel_rfl) rfl rfl ?_
            refine wpList_store_mid rfl 66 _ _ rfl (w.heap.size + 1) (k * 26 + 7 + M * 3) a.cells.toArray rfl rfl ht6H.out infoA3 (by simp [Acc.cells, Value.oneCell']) ?_
            rw [show w2.drew.setCells (w.heap.size + 1) (k * 26 + 7 + M * 3) a.cells.toArray.toList = W6 from hW6H.out.symm]
            refine wpList_nil (And.intro hS6.out fun _ => ?_)
            simp only [Act.put, List.getElem_toArray, List.getElem_cons_succ, List.getElem_cons_zero, List.setIfInBounds_toArray, List.set_cons_zero, List.set_cons_succ]
            refine wpAnyH_done (by kernel_rfl) (NoPanic.normal ?_) _
            go_wp2_with (refine wpList_puti rfl 3 _ _ rfl ⟨w.heap.size + 1, k * 26 + 25, none⟩ rfl ((M : Int) + 1) rfl (by kernel_rfl) _ cn6 fn6 fun W' hW' => ?_; (have p8 : Hid _ := p7.out W' hW'); clear hW')
            go_roundw
            case rel => exact ⟨m + 1, by omega, by go_num, p7.out _ rfl⟩
            case measure => simp [intOf]; omega
        · have hmN : m = N := by omega
          have hfin : Hid (∃ cur, WoS w wr v l.length cur ∧ DoneW v l cur (k + 1)) := by
            obtain ⟨_, cur', q2, q3, q4⟩ := hq.out
            rw [hmN, ← hall.out] at q4
            exact ⟨cur', q2, done_more q3 hxk.out q4⟩
          subst hmN
          clear hq
          go_wp2
          go_roundw
          case rel => exact ⟨k + 1, by omega, by go_num, hfin⟩
          case measure => simp [intOf]; omega
    · have hkl : k = l.length := by omega
      subst hkl
      obtain ⟨cur, hw, hd⟩ := hs.out
      have hfin : Hid (Rows wr 26 (some ⟨w.heap.size + 1, 0, none⟩) l.length ((l.map (bareE v)).map Ev.cells) ∧ Below w.heap.size w wr) := ⟨by rw [← done_all hd hw.len]; exact hw.r, hw.b⟩
      clear hs hw hd
      go_wp2
      go_ret
      exact ⟨rfl, hfin.out⟩
end Go.Proofs.YtafefnkgdnmjbaaGreatDoor.pg
/- Package race's Conflicts. -/
namespace Go.Proofs.YtafefnkgdnmjbaaGreatDoor.pg
open Go.ChangeShapes Go.WideShapes Go.ChangeAt Go.RowKit Go.Shelf
set_option linter.unusedVariables false
set_option linter.unusedSimpArgs false
set_option maxRecDepth 100000
attribute [local go_sem ↓] Go.wp_at_zero Go.wp_at_succ
theorem bef_tr {a b c : Acc} (h1 : bef a b = true) (h2 : bef b c = true) : bef a c = true := by simp [bef] at *; omega
theorem of_pair {x : Ev} (hx : rightP x) : x.of.Pairwise (fun a b => bef a b = true) := by
  have key : ∀ j i : Nat, i < j → ∀ a b, x.of[i]? = some a → x.of[j]? = some b → bef a b = true := by
    intro j
    induction j with
    | zero => intro i hi; omega
    | succ j ih =>
      intro i hi a b ha hb
      have hjl := (List.getElem?_eq_some_iff.mp hb).1
      rw [Ev.of_len] at hjl
      obtain ⟨c, hc⟩ : ∃ c, x.of[j]? = some c := ⟨_, List.getElem?_eq_getElem (by rw [Ev.of_len]; omega)⟩
      have h1 : bef c b = true := by
        have := (hx.2.1 (j + 1) hjl b (by rw [← of_at hjl]; exact hb)).2 (by omega) c
        rw [Nat.add_sub_cancel] at this
        exact this (by rw [← of_at (by omega)]; exact hc)
      by_cases e : i = j
      · subst e; rw [ha] at hc; cases hc; exact h1
      · exact bef_tr (ih i (by omega) a c ha hc) h1
  rw [List.pairwise_iff_getElem]
  intro i j hi hj hij
  exact key j i hij _ _ (List.getElem?_eq_getElem hi) (List.getElem?_eq_getElem hj)
theorem getD_list (K : List Acc) (h : K.length ≤ 6) (i : Nat) (hi : i < 6) : ([K.getD 0 acc0, K.getD 1 acc0, K.getD 2 acc0, K.getD 3 acc0, K.getD 4 acc0, K.getD 5 acc0] : List Acc)[i]? = some (K.getD i acc0) := by
  match i, hi with
  | 0, _ => rfl
  | 1, _ => rfl
  | 2, _ => rfl
  | 3, _ => rfl
  | 4, _ => rfl
  | 5, _ => rfl
theorem mk_list (x : Ev) (K : List Acc) (h : K.length ≤ 6) (i : Nat) (hi : i < 6) : (mkE x K).list[i]? = some (K.getD i acc0) := getD_list K h i hi
theorem mk_tN (x : Ev) (K : List Acc) (h : K.length ≤ 6) : tN (mkE x K).n = K.length := by
  show tN (K.length : Int) = K.length
  unfold tN
  omega
theorem mk_of (x : Ev) (K : List Acc) (h : K.length ≤ 6) : (mkE x K).of = K := by
  refine List.ext_getElem? fun i => ?_
  unfold Ev.of
  rw [mk_tN x K h, List.getElem?_take]
  by_cases hi : i < K.length
  · rw [if_pos hi, mk_list x K h i (by omega), List.getD_eq_getElem?_getD, List.getElem?_eq_getElem hi]; rfl
  · rw [if_neg hi, List.getElem?_eq_none (by omega)]
theorem bare_len {v : Nat → Bool} {x : Ev} : (bareL v x 6).length ≤ 6 := bareL_len v x 6
theorem bare_of {v : Nat → Bool} {x : Ev} : (bareE v x).of = bareL v x 6 := mk_of x _ bare_len
theorem bare_right {v : Nat → Bool} {x : Ev} (hx : rightP x) : rightP (bareE v x) := by
  have hl6 : x.of.length ≤ 6 := by rw [Ev.of_len]; exact tN_le _
  have hK : bareL v x 6 = x.of.filter fun a => !hasP v a := by unfold bareL; rw [List.take_of_length_le hl6]
  have hmem : (⟨5, x.go, true⟩ : Acc) ∈ bareL v x 6 := by rw [hK]; exact List.mem_filter.mpr ⟨hx.2.2.2, by simp [hasP]⟩
  have hpos : 0 < (bareL v x 6).length := List.length_pos_of_mem hmem
  have hle := bare_len (v := v) (x := x)
  have hpw : (bareL v x 6).Pairwise (fun a b => bef a b = true) := by rw [hK]; exact (of_pair hx).filter _
  have hin : ∀ a ∈ bareL v x 6, 0 ≤ a.num ∧ a.num < manyP a.kind := fun a ha => by
    rw [hK] at ha
    obtain ⟨i, hi⟩ := List.getElem?_of_mem (List.mem_filter.mp ha).1
    have hil := (List.getElem?_eq_some_iff.mp hi).1
    rw [Ev.of_len] at hil
    exact (hx.2.1 i hil a (by rw [← of_at hil]; exact hi)).1
  refine ⟨⟨hx.1.1, hx.1.2.1, ?_, ?_⟩, fun i hi => ?_, fun a ha => ?_, ?_⟩
  · show 1 ≤ ((bareL v x 6).length : Int); omega
  · show ((bareL v x 6).length : Int) ≤ 6; omega
  · have e : tN (bareE v x).n = (bareL v x 6).length := mk_tN x _ hle
    rw [e] at hi
    intro a ha
    have h1 : (bareE v x).list[i]? = some ((bareL v x 6).getD i acc0) := mk_list x _ hle i (by omega)
    rw [h1, Option.some.injEq] at ha
    have h2 : (bareL v x 6)[i]? = some a := by rw [← ha, List.getD_eq_getElem?_getD, List.getElem?_eq_getElem hi]; rfl
    refine ⟨hin a (List.mem_of_getElem? h2), fun h0 b hb => ?_⟩
    have h3 : (bareE v x).list[i - 1]? = some ((bareL v x 6).getD (i - 1) acc0) := mk_list x _ hle (i - 1) (by omega)
    rw [h3, Option.some.injEq] at hb
    have h4 : (bareL v x 6)[i - 1]? = some b := by rw [← hb, List.getD_eq_getElem?_getD, List.getElem?_eq_getElem (by omega)]; rfl
    rw [List.pairwise_iff_getElem] at hpw
    have := hpw (i - 1) i (by omega) hi (by omega)
    have e1 : (bareL v x 6)[i - 1]'(by omega) = b := by rw [List.getElem?_eq_getElem (by omega)] at h4; exact Option.some.inj h4
    have e2 : (bareL v x 6)[i]'hi = a := by rw [List.getElem?_eq_getElem hi] at h2; exact Option.some.inj h2
    rw [e1, e2] at this
    exact this
  · have e : tN (bareE v x).n = (bareL v x 6).length := mk_tN x _ hle
    rw [e] at ha
    obtain ⟨i, hi⟩ := List.getElem?_of_mem ha
    rw [List.getElem?_drop] at hi
    have hlt : (bareL v x 6).length + i < 6 := by
      have := (List.getElem?_eq_some_iff.mp hi).1
      exact this
    rw [show (bareE v x).list[(bareL v x 6).length + i]? = _ from mk_list x _ hle _ hlt, Option.some.injEq] at hi
    rw [← hi, List.getD_eq_getElem?_getD, List.getElem?_eq_none (by omega)]
    rfl
  · rw [bare_of]; exact hmem
/-- A trace without what its events touch of plain variables. -/
def bareT (v : Nat → Bool) (l : List Ev) : List Ev := l.map (bareE v)
theorem bareT_right {v : Nat → Bool} {l : List Ev} (h : ∀ x ∈ l, rightP x) : ∀ x ∈ bareT v l, rightP x := fun x hx => by
  obtain ⟨y, hy, rfl⟩ := List.mem_map.mp hx
  exact bare_right (h y hy)
/-- The clocks of events that synchronise. -/
def bareC (v : Nat → Bool) (l : List Ev) : List Ck := (rel (evf (bareT v l)) l.length).1
def cfF (v : Nat → Bool) (l : List Ev) (i j : Nat) : Bool := !(decide (((bareC v l).getD i zeroK).of (evf l i).go.toNat ≤ ((bareC v l).getD j zeroK).of (evf l i).go.toNat)) && clP v (evf l i) (evf l j)
/-- The conflicts of a trace. -/
def cfL (v : Nat → Bool) (l : List Ev) : List (Nat × Nat) := (prL l.length).filter fun p => cfF v l p.1 p.2
theorem prL_in {n : Nat} {p : Nat × Nat} (h : p ∈ prL n) : p.1 < p.2 ∧ p.2 < n := by
  have := (eAll_mem ttF n p n).mp h
  omega
set_option maxHeartbeats 4000000 in
theorem conflicts_ok (M : MPr) (l : List Ev) (la : Option Addr) (lc : Nat) (w : World) (hM : M.lies w) (hF : prog.Forms w) (b c : Int) (hr : chk insP M.pr = (0, b, c)) (hl : Rows w 26 la lc (l.map Ev.cells)) (hlen : l.length ≤ 256) (hrt : ∀ x ∈ l, rightP x) :
    Calls Tryz.prog 19 #[M.val, .slice la l.length lc] w fun e w' => ∃ da dc, e = .returned (.tuple #[.slice da (cfL (plV M.vars) l).length dc, .int .i64 0]) ∧ Rows w' 2 da dc ((cfL (plV M.vars) l).map edg) ∧ Below w.heap.size w w' := by
  have c0 : checkP l 0 := .inr (.inr ⟨hlen, hrt, rfl⟩)
  have cK : ∀ wx, Below w.heap.size w wx → Calls Tryz.prog 58 #[M.val, .slice la l.length lc] wx fun e w' => e = .returned (.tuple #[.agg (boolRow 8 (plV M.vars)), .int .i64 0]) ∧ Below wx.heap.size wx w' := fun wx hb => checked_any M l la lc wx (hM.later hb) (hF.later hb) b c hr (hl.later hb) 0 c0
  have cW : ∀ wx, Below w.heap.size w wx → Calls Tryz.prog 60 #[.agg (boolRow 8 (plV M.vars)), .slice la l.length lc] wx fun e w' => e = .returned (.slice (some ⟨wx.heap.size + 1, 0, none⟩) l.length l.length) ∧ Rows w' 26 (some ⟨wx.heap.size + 1, 0, none⟩) l.length ((bareT (plV M.vars) l).map Ev.cells) ∧ Below wx.heap.size wx w' := fun wx hb => without_any (plV M.vars) l la lc wx (hl.later hb) hlen hrt
  have hbl : (bareT (plV M.vars) l).length = l.length := List.length_map _
  have cC : ∀ wx ba bc, Rows wx 26 ba bc ((bareT (plV M.vars) l).map Ev.cells) → Calls Tryz.prog 59 #[.slice ba l.length bc] wx fun e w' => ∃ ca cc, e = .returned (.tuple #[.slice ca l.length cc, .int .i64 0]) ∧ Rows w' 6 ca cc ((bareC (plV M.vars) l).map Ck.cells) ∧ Below wx.heap.size wx w' := fun wx ba bc hb => by
    have := clocks_ok (bareT (plV M.vars) l) ba bc wx hb (by rw [hbl]; exact hlen) (bareT_right hrt)
    rw [hbl] at this
    refine this.mono ?_
    rintro e w' ⟨ca, cc, he, ho, hb'⟩
    exact ⟨ca, cc, he, own_rows ho fun row hm => by rw [List.mem_map] at hm; obtain ⟨y, _, rfl⟩ := hm; rfl, hb'⟩
  have hCl : (bareC (plV M.vars) l).length = l.length := rel_len _ _
  have hFd : Hid (cfL (plV M.vars) l = (prL l.length).filter fun p => cfF (plV M.vars) l p.1 p.2) := rfl
  have cP : Hid (∀ (wx : World) (A8 A6 : Nat) (ca : Option Addr) (cc : Nat), Below w.heap.size w wx → wx.heap[A8]? = some (.cells #[.slice ca l.length cc] 104) → wx.heap[w.heap.size + 1]? = some (.cells #[.slice la l.length lc] 22) → wx.heap[A6]? = some (objV (plV M.vars)) → Rows wx 6 ca cc ((bareC (plV M.vars) l).map Ck.cells) → ∀ w2, w2 = wx.alloc (.cells #[.int .i64 (l.length : Int)] 3) →
      Calls Tryz.prog 61 #[fnV 102 #[.pointer (some ⟨wx.heap.size, 0, none⟩)], fnV 63 #[.pointer (some ⟨A8, 0, none⟩), .pointer (some ⟨w.heap.size + 1, 0, none⟩), .pointer (some ⟨A6, 0, none⟩)]] w2 fun e w' => ∃ da dc, e = .returned (.slice da (cfL (plV M.vars) l).length dc) ∧ Rows w' 2 da dc ((cfL (plV M.vars) l).map edg) ∧ Below w2.heap.size w2 w') := by
    intro wx A8 A6 ca cc hb h8 h1 h6 hC w2 hw2
    have hz : w2.heap.size = wx.heap.size + 1 := by rw [hw2, World.size_alloc]
    have hbx : Below wx.heap.size wx w2 := by rw [hw2]; exact boxed _ _
    have hBs : w2.heap[wx.heap.size]? = some (.cells #[.int .i64 (l.length : Int)] 3) := by rw [hw2]; exact heap_alloc_new _ _
    refine (put_any _ _ _ _ (prL l.length) (prL_len hlen) (cfF (plV M.vars) l) w2 (enters_of Tryz.func102 (by kernel_rfl) rfl) (enters_of Tryz.func63 (by kernel_rfl) rfl) ?_ ?_).mono ?_
    · intro w3 hb3
      exact all_stops Fence.wide 2 trivial rfl (by omega) wx.heap.size w2.heap.size l.length hlen w3 (by omega) hb3.size ((hb3.block _ (by omega)).trans hBs)
    · intro p hp w3 hb3
      obtain ⟨q1, q2⟩ := prL_in hp
      have hbw : Below wx.heap.size wx w3 := bthen hbx hb3
      have kb : ∀ {B : Nat} {o : Obj}, wx.heap[B]? = some o → w3.heap[B]? = some o := fun {B o} q => (hbw.block B (Array.getElem?_eq_some_iff.mp q).1).trans q
      have h8' := kb h8
      rw [← hCl] at h8'
      have gi : ∀ i, i < l.length → (bareC (plV M.vars) l)[i]? = some ((bareC (plV M.vars) l).getD i zeroK) := fun i hi => rel_get _ _ i hi
      exact confl1_any (bareC (plV M.vars) l) ca cc l la lc (plV M.vars) w3 (hC.later hbw) (hl.later (bthen hb hbw)) p.1 p.2 _ _ _ _ (evf_at (by omega)) (evf_at (by omega)) (gi _ (by omega)) (gi _ (by omega)) (hrt _ (List.mem_of_getElem? (evf_at (by omega)))) (hrt _ (List.mem_of_getElem? (evf_at (by omega)))) A8 (w.heap.size + 1) A6 h8' (kb h1) (kb h6) _ rfl
    · rintro e w' ⟨da', dc', rfl, ho, hb'⟩
      exact ⟨da', dc', rfl, own_rows ho fun row hm => by rw [List.mem_map] at hm; obtain ⟨y, _, rfl⟩ := hm; rfl, hb'⟩
  have hzV : Hid (∀ w, (zeroValue 86).run Tryz.prog w = .ok (.agg (boolRow 8 fun _ => false)) w) := zeroPl
  have huV : Hid (Tryz.prog.underlying 86 = _) := Tryz.underlying86
  have h01 : Hid (((w.alloc (objP M)).alloc (.cells #[.slice la l.length lc] 22)).heap[w.heap.size + 1]? = some (.cells #[.slice la l.length lc] 22)) := by
    have := heap_alloc_new (w.alloc (objP M)) (.cells #[.slice la l.length lc] 22)
    rwa [World.size_alloc] at this
  clear hM hF hr hl hlen hrt c0 hbl hCl hFd
  generalize cfL (plV M.vars) l = F at *
  generalize bareC (plV M.vars) l = C at *
  generalize bareT (plV M.vars) l = bl at *
  generalize plV M.vars = v at *
  go_enter Tryz.func19, Tryz.ntmps19
  go_wp2_with (first
    | (go_at_call 58; (with_reducible refine (cK _ (bthen (boxed _ _) (boxed _ _))).mono ?_); rintro e w1 ⟨rfl, hb1⟩; (have hB1 : Hid (Below w.heap.size w w1 ∧ w1.heap[w.heap.size + 1]? = some (.cells #[.slice la l.length lc] 22)) := ⟨bthen (bthen (boxed _ _) (boxed _ _)) hb1, (hb1.block _ (Array.getElem?_eq_some_iff.mp h01.out).1).trans h01.out⟩); clear hb1 cK)
    | (refine wpList_alloc_big rfl 86 rfl hzV.out ?_)
    | (refine wpList_store_row rfl 86 _ _ rfl w1.heap.size (boolRow 8 v) rfl rfl _ _ (heap_alloc_new _ _) (infoPl _) (by rw [boolRow_size, boolRow_size]) (boolRow_one _ _) ?_; (obtain ⟨W2, hW2⟩ : ∃ W2, W2 = (w1.alloc (objV fun _ => false)).setRow w1.heap.size (boolRow 8 v) := ⟨_, rfl⟩); rw [← hW2]; (have hv2 : Hid (W2.heap[w1.heap.size]? = some (objV v) ∧ Below w.heap.size w W2 ∧ W2.heap[w.heap.size + 1]? = some (.cells #[.slice la l.length lc] 22)) := by (rw [hW2]; have hlt := (Array.getElem?_eq_some_iff.mp hB1.out.2).1; exact ⟨setRow_heap _ _ _ _ _ _ (heap_alloc_new _ _), below_setRow (bthen hB1.out.1 (boxed _ _)) hB1.out.1.size _, (setRow_other _ _ _ _ (by omega)).trans (((boxed _ _).block _ hlt).trans hB1.out.2)⟩)); (have ct2 := cell_of (k := 0) hv2.out.2.2 rfl); clear hW2)
    | (refine wpList_load_row rfl 86 _ rfl w1.heap.size rfl _ _ _ _ hv2.out.1 huV.out rfl (infoPl _) ?_)
    | (go_at_call 60; (with_reducible refine (cW _ hv2.out.2.1).mono ?_); rintro e w3 ⟨rfl, hr3, hb3⟩; (have cC3 := cC w3 _ _ hr3); (have hB3 : Hid (Below W2.heap.size W2 w3) := hb3); clear hr3 hb3 cW)
    | (go_at_call 59; (with_reducible refine cC3.mono ?_); rintro e w4 ⟨ca, cc, rfl, hr4, hb4⟩; (have hB4 : Hid (Below W2.heap.size W2 w4) := bthen hB3.out hb4); (have hR4 : Hid (Rows w4 6 ca cc (C.map Ck.cells)) := hr4); (have hv5 : Hid ((w4.alloc (.cells #[.slice ca l.length cc] 104)).heap[w4.heap.size]? = some (.cells #[.slice ca l.length cc] 104) ∧ (w4.alloc (.cells #[.slice ca l.length cc] 104)).heap[w.heap.size + 1]? = some (.cells #[.slice la l.length lc] 22) ∧ (w4.alloc (.cells #[.slice ca l.length cc] 104)).heap[w1.heap.size]? = some (objV v) ∧ Rows (w4.alloc (.cells #[.slice ca l.length cc] 104)) 6 ca cc (C.map Ck.cells) ∧ Below w.heap.size w (w4.alloc (.cells #[.slice ca l.length cc] 104))) := by (have b45 := bthen hB4.out (boxed w4 (.cells #[.slice ca l.length cc] 104)); exact ⟨heap_alloc_new _ _, (b45.block _ (Array.getElem?_eq_some_iff.mp hv2.out.2.2).1).trans hv2.out.2.2, (b45.block _ (Array.getElem?_eq_some_iff.mp hv2.out.1).1).trans hv2.out.1, hR4.out.later (boxed _ _), bthen hv2.out.2.1 b45⟩)); (have ct5 := cell_of (k := 0) hv5.out.2.1 rfl); clear hr4 hb4 cC3)
    | (go_at_call 62; (refine (allPairs_any (l.length : Int) _).mono ?_); rintro e w6 ⟨rfl, hw6⟩; (have cQ := cP.out (w4.alloc (.cells #[.slice ca l.length cc] 104)) w4.heap.size w1.heap.size ca cc hv5.out.2.2.2.2 hv5.out.1 hv5.out.2.1 hv5.out.2.2.1 hv5.out.2.2.2.1 w6 hw6); (have hB6 : Hid (Below w.heap.size w w6) := by (show Below _ _ _; rw [hw6]; exact bthen hv5.out.2.2.2.2 (boxed _ _))); (try rw [World.size_alloc] at cQ); clear hw6)
    | (go_at_call 61; (refine cQ.mono ?_); rintro e w7 ⟨va, vc, rfl, hr7, hb7⟩))
  go_ret2
  exact ⟨va, vc, rfl, hr7, bthen hB6.out hb7⟩
end Go.Proofs.YtafefnkgdnmjbaaGreatDoor.pg
