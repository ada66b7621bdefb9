/- An empty list literal; a row of a list written over. -/
import Derived.Test.YtkadlopcomjonaaDoorM17
import Derived.Test.YtkadlopcomjonaaDoorM4
import Derived.Test.YtkadlopcomjonaaDoorM28
import Derived.Test.YtkadlopcomjonaaDoorM32
namespace Go.Proofs.YtkadlopcomjonaaDoor.pg
open Go.ChangeShapes Go.WideShapes Go.ChangeAt Go.RowKit
set_option linter.unusedVariables false
set_option linter.unusedSimpArgs false
theorem wpList_empty {P : Program} {ops : Array Oper} {rest : List Oper} {o : Oper} {a : Act} {w : World} {Q : Exit → Act → World → Prop} (hg : o.guard = none) (t e : TypeId) (ho : o.op = .buildSlice t 0 #[]) (ie : TypeInfo)
    (hu : P.underlying t = some (.slice e)) (hie : P.info? e = some ie)
    (h : wpList P ops Q rest (a.put o.dst (.slice (some ⟨w.heap.size, 0, none⟩) 0 0)) (w.alloc (.cells #[] e))) : wpList P ops Q (o :: rest) a w :=
  wpList_plain hg fun _ hK => by
    have hr : (Instr.buildSlice t 0 #[]).run P w = .ok (.slice (some ⟨w.heap.size, 0, none⟩) 0 0) (w.alloc (.cells #[] e)) := by
      simp [Instr.buildSlice, run_underlying hu, sizeOf, typeInfo, hie, newRow, Instr.fill, go_sem]
    unfold Oper.wp execOp
    simp only [ho, Sem.run_bind, Sem.run_pure, Result.andThen_ok, List.map_toArray, List.map_nil, Array.map_empty, hr]
    exact hK _ _ h
theorem own_empty (w : World) (lo e k : Nat) (hl : lo ≤ w.heap.size) : OwnL (w.alloc (.cells #[] e)) lo e k (some ⟨w.heap.size, 0, none⟩) 0 [] :=
  ⟨by simp, .inr ⟨w.heap.size, 0, #[], rfl, hl, heap_new_q w _, by simp, by unfold maxLen; omega, by simp, by simp⟩⟩
/-- A row of an own list can be written over. -/
theorem own_there {w : World} {lo e k : Nat} {g cap : Nat} {L : List (List Value)} (h : OwnL w lo e k (some ⟨g, 0, none⟩) cap L) (hk : ∀ row ∈ L, row.length = k) {i : Nat} (hi : i < L.length) : w.there g (i * k) k := by
  have hr := own_rows h hk
  obtain ⟨x, hx, hm⟩ := get_lt L i hi
  obtain ⟨b0, off, ha, hlt, hc⟩ := hr.row hx
  intro j hj
  refine ⟨?_, ?_⟩
  · have hlt2 : i * k + j < L.length * k := by
      have : (i + 1) * k ≤ L.length * k := Nat.mul_le_mul_right k hi
      rw [Nat.add_mul] at this
      omega
    rw [World.ownsRow.cellAt h (i * k + j) hlt2, flatten_at L hk i x hx j hj, List.getElem?_eq_getElem (by rw [hk x hm]; exact hj)]
    rfl
  · rcases h.2 with ⟨h1, _⟩ | ⟨g', cap', cur, h1, _, hg, _⟩
    · simp only [Value.slice.injEq] at h1
      cases h1.1
    · simp only [Value.slice.injEq, Option.some.injEq, Addr.mk.injEq, and_true, true_and] at h1
      rw [h1.1]
      exact frozen_of_row _ _ _ _ _ hg
theorem rows_put {w : World} {k g cap : Nat} {L : List (List Value)} (h : Rows w k (some ⟨g, 0, none⟩) cap L) {i : Nat} (hi : i < L.length) {row : List Value} (hr : row.length = k) (ht : w.there g (i * k) k) : Rows (w.setCells g (i * k) row) k (some ⟨g, 0, none⟩) cap (L.set i row) := by
  obtain ⟨h1, h2, h3, h4⟩ := h
  rcases h4 with rfl | ⟨b, off, ha, hlt, hc⟩
  · simp at hi
  · simp only [Option.some.injEq, Addr.mk.injEq, and_true] at ha
    obtain ⟨rfl, rfl⟩ := ha
    refine ⟨by simpa using h1, h2, by simp, .inr ⟨g, 0, rfl, ?_, fun q rw' hq => ?_⟩⟩
    · have := (World.keptBut_setCells g (may := fun _ => True) row (i * k) w (fun _ _ => trivial))
      have hs : w.heap.size ≤ (w.setCells g (i * k) row).heap.size := by
        have e : ∀ (vs : List Value) (o : Nat) (w : World), (w.setCells g o vs).heap.size = w.heap.size := by
          intro vs
          induction vs with
          | nil => intro o w; rfl
          | cons v vs ih => intro o w; simp only [World.setCells]; rw [ih]; exact World.size_setCell _ _ _
        rw [e]; exact Nat.le_refl _
      omega
    · rw [List.getElem?_set] at hq
      by_cases c : i = q
      · subst c
        rw [if_pos rfl, if_pos hi, Option.some.injEq] at hq
        subst hq
        refine ⟨hr, fun j u hj => ?_⟩
        have hjl := (List.getElem?_eq_some_iff.mp hj).1
        rw [Nat.zero_add]
        rw [World.cell?_setCells_in g row (i * k) w (fun j hj => (ht j (by omega)).1) j hjl]
        rw [← hj, List.getElem?_eq_getElem hjl]
      · rw [if_neg c] at hq
        obtain ⟨r1, r2⟩ := hc q rw' hq
        refine ⟨r1, fun j u hj => ?_⟩
        rw [World.cell?_setCells_out g row (i * k) w]
        · exact r2 j u hj
        · intro _ _
          show 0 + (q * k + j) < i * k ∨ i * k + row.length ≤ 0 + (q * k + j)
          have hjl : j < k := by have := (List.getElem?_eq_some_iff.mp hj).1; omega
          rw [hr]
          rcases Nat.lt_or_gt_of_ne c with c | c
          · right
            have : (i + 1) * k ≤ q * k := Nat.mul_le_mul_right k c
            rw [Nat.add_mul] at this
            omega
          · left
            have : (q + 1) * k ≤ i * k := Nat.mul_le_mul_right k c
            rw [Nat.add_mul] at this
            omega
theorem size_setCells (g : Nat) : ∀ (vs : List Value) (o : Nat) (w : World), (w.setCells g o vs).heap.size = w.heap.size
  | [], _, _ => rfl
  | v :: vs, o, w => by simp only [World.setCells]; rw [size_setCells g vs]; exact World.size_setCell _ _ _
theorem below_setCells {n₀ g : Nat} (hg : n₀ ≤ g) : ∀ (vs : List Value) (o : Nat) (w w' : World), Below n₀ w w' → Below n₀ w (w'.setCells g o vs)
  | [], _, _, _, h => h
  | v :: vs, o, w, w', h => below_setCells hg vs (o + 1) w _ (h.setCell (p := ⟨g, o, none⟩) hg v)
theorem rows_ix_g {t e : TypeId} {k : Nat} (hu : Tryd.prog.underlying t = some (.slice e)) (hz : ∀ wx, (sizeOf e).run Tryd.prog wx = .ok k wx) (g n cap i : Nat) (h : i < n) : ∀ wx, (Instr.indexAt t (.slice (some ⟨g, 0, none⟩) n cap) (.int .i64 (i : Int))).run Tryd.prog wx = .ok (.pointer (some ⟨g, i * k, none⟩)) wx := by
  intro wx
  have q1 : (i : Int) < n := by omega
  have q2 : ¬ (i : Int) < 0 := by omega
  simp [Instr.indexAt, run_underlying hu, asIntOf, go_sem, hz, q1, q2, h]
end Go.Proofs.YtkadlopcomjonaaDoor.pg
/- Lists of events that are the same; events in another order. -/
namespace Go.Proofs.YtkadlopcomjonaaDoor.pg
open Go.ChangeShapes Go.WideShapes Go.ChangeAt Go.RowKit Go.Shelf
set_option linter.unusedVariables false
set_option linter.unusedSimpArgs false
set_option maxRecDepth 100000
theorem evs_ix {w : World} {a : Option Addr} {cap : Nat} {l : List Ev} (h : Rows w 26 a cap (l.map Ev.cells)) (i : Nat) (x : Ev) (hi : l[i]? = some x) :
    ∃ b o, (∀ wx, (Instr.indexAt 22 (.slice a l.length cap) (.int .i64 (i : Int))).run Tryd.prog wx = .ok (.pointer (some ⟨b, o, none⟩)) wx) ∧ b < w.heap.size ∧ w.rangeAt b o x.cells := by
  obtain ⟨b, o, hr, hlt, hc⟩ := h.ix 22 42 Tryd.underlying22 (by kernel_rfl) (fun wx => Tryd.sizeOf42 wx) i (row := x.cells) (by simp [hi])
  rw [List.length_map] at hr
  exact ⟨b, o, hr, hlt, hc⟩
theorem guard_ne {x : Ev} (hx : x.wf) (p q : Operand) (w : World) : ((do
    eqGuard .neq 42 p q (.agg x.cells.toArray) (.agg x.cells.toArray)
    binOp .neq 42 (.agg x.cells.toArray) (.agg x.cells.toArray)) : Sem Value).run Tryd.prog w = .ok (.bool false) w := by
  have hm : Tryd.prog.eqGuardType Tryd.prog.depth 42 = false := by kernel_rfl
  simp only [Sem.run_bind, run_eqGuard_agg (P := Tryd.prog) w .neq 42 p q _ _ hm, Result.andThen_ok]
  exact ne_self hx w
theorem wpList_mkR {P : Program} (w : World) {ops : Array Oper} {rest : List Oper} {o : Oper} {a : Act} {Q : Exit → Act → World → Prop}
    (hg : o.guard = none) (l c : Operand) (t : TypeId) (hop : o.op = Op.makeSlice t l c)
    (e : TypeId) (i : TypeInfo) (z : Value) (k : Nat) (h1 : P.underlying t = some (.slice e)) (h2 : P.info? e = some i) (h3 : i.zero = some z) (h4 : i.size = k)
    (n : Nat) (hl : a.eval l = .int .i64 (n : Int)) (hc : a.eval c = .int .i64 (n : Int)) (b2 : i.bytes * n ≤ 281474976710656) (b3 : n ≤ 9223372036854775807)
    (hK : wpList P ops Q rest (a.put o.dst (.slice (some ⟨w.heap.size, 0, none⟩) n n)) (w.alloc (.cells (madeCells z.cells (n * k)) e))) :
    wpList P ops Q (o :: rest) a w := by
  refine wpList_plain hg fun K hK' => ?_
  have b2' : (i.bytes : Int) * (n : Int) ≤ 281474976710656 := by
    have h : ((i.bytes * n : Nat) : Int) ≤ 281474976710656 := by omega
    rwa [Int.natCast_mul] at h
  have hrun := run_make (P := P) w t e i z h1 h2 h3 .i64 .i64 (n : Int) (n : Int) (by omega) (by omega) b2' (by omega)
  rw [h4, Int.toNat_natCast] at hrun
  unfold Oper.wp
  simp [execOp, hop, hl, hc, hrun, Result.andThen]
  exact hK' _ _ hK
theorem rows_made (w : World) (n : Nat) (hn : n ≤ 256) (t : TypeId) : Rows (w.alloc (.cells (madeCells stEvZ.cells.toArray (n * 26)) t)) 26 (some ⟨w.heap.size, 0, none⟩) n (List.replicate n stEvZ.cells) := by
  refine ⟨by simp, by omega, by simp, .inr ⟨w.heap.size, 0, rfl, by simp [World.size_alloc], fun i row hi => ?_⟩⟩
  rw [List.getElem?_replicate] at hi
  split at hi
  · rename_i hlt
    cases hi
    refine ⟨rfl, fun j u hj => ?_⟩
    have hj26 : j < 26 := (List.getElem?_eq_some_iff.mp hj).1
    rw [Nat.zero_add, cell_of_row _ _ _ _ _ _ (heap_alloc_new w _)]
    have hb : i * 26 + j < n * 26 := by omega
    unfold madeCells
    rw [Array.getElem?_map, Array.getElem?_range, if_pos hb]
    have hm : (i * 26 + j) % stEvZ.cells.toArray.size = j := by
      show (i * 26 + j) % 26 = j
      omega
    have h9 : stEvZ.cells.toArray[j]! = stEvZ.cells[j]'hj26 := by
      rw [getElem!_pos stEvZ.cells.toArray j hj26]
      rfl
    simp only [Option.map_some, hm]
    rw [h9, ← hj, List.getElem?_eq_getElem hj26]
  · cases hi
/-- The events at the first k places. -/
def arrE (l : List Ev) (ps : List Int) : List Ev := ps.map fun p => evf l p.toNat
theorem arr_set {l : List Ev} {ps : List Int} {k : Nat} {p : Int} (hp : ps[k]? = some p) : (((arrE l (ps.take k)).map Ev.cells) ++ List.replicate (ps.length - k) stEvZ.cells).set k (evf l p.toNat).cells = ((arrE l (ps.take (k + 1))).map Ev.cells) ++ List.replicate (ps.length - (k + 1)) stEvZ.cells := by
  have hk := (List.getElem?_eq_some_iff.mp hp).1
  have hl : ((arrE l (ps.take k)).map Ev.cells).length = k := by simp [arrE]; omega
  obtain ⟨m, hm⟩ : ∃ m, ps.length - k = m + 1 := ⟨ps.length - k - 1, by omega⟩
  rw [List.set_append, if_neg (by omega), hl, Nat.sub_self, hm, show ps.length - (k + 1) = m by omega, List.replicate_succ, List.set_cons_zero, List.take_add_one, hp]
  simp [arrE]
theorem ix_made (A n : Nat) (j : Nat) (h : j < n) : ∀ wx, (Instr.indexAt 22 (.slice (some ⟨A, 0, none⟩) n n) (.int .i64 (j : Int))).run Tryd.prog wx = .ok (.pointer (some ⟨A, j * 26, none⟩)) wx := by
  intro wx
  have he : Tryd.prog.elem 22 = 42 := by kernel_rfl
  rw [run_indexAt_slice wx 22 ⟨A, 0, none⟩ _ _ _ _ (by rw [he]; exact Tryd.underlying22), if_pos (by omega), he, Tryd.sizeOf42 wx]
  simp only [Int.toNat_natCast]
  show Result.ok (Value.pointer (some ((⟨A, 0, none⟩ : Addr).add (j * 26)))) wx = _
  rw [add_none, Nat.zero_add]
theorem cells_keep {B : Nat} {t : TypeId} : ∀ (vs : List Value) (o : Nat) (W : World) (cs : Array Value), W.heap[B]? = some (.cells cs t (0, 0)) → ∃ cs', (W.setCells B o vs).heap[B]? = some (.cells cs' t (0, 0)) ∧ cs'.size = cs.size
  | [], o, W, cs, h => ⟨cs, h, rfl⟩
  | v :: vs, o, W, cs, h => by
    simp only [World.setCells]
    rw [setCell_eq_setRow W B o _ _ _ v h]
    obtain ⟨cs', h1, h2⟩ := cells_keep vs (o + 1) _ _ (setRow_heap W B _ (cs.setIfInBounds o v) _ _ h)
    exact ⟨cs', h1, by rw [h2, Array.size_setIfInBounds]⟩
theorem there_block {W : World} {B : Nat} {t : TypeId} {cs : Array Value} (h : W.heap[B]? = some (.cells cs t (0, 0))) {o k : Nat} (hk : o + k ≤ cs.size) : W.there B o k := fun j hj => ⟨by
  rw [cell_of_row W B (o + j) _ _ _ h, Array.getElem?_eq_getElem (by omega)]
  rfl, frozen_of_row _ _ _ _ _ h⟩
/-- How all lies while events are laid. -/
structure ArS (w wr : World) (l : List Ev) (ps : List Int) (k : Nat) : Prop where
  r : Rows wr 26 (some ⟨w.heap.size, 0, none⟩) ps.length (((arrE l (ps.take k)).map Ev.cells) ++ List.replicate (ps.length - k) stEvZ.cells)
  c : ∃ cs, wr.heap[w.heap.size]? = some (.cells cs 42 (0, 0)) ∧ cs.size = ps.length * 26
  b : Below w.heap.size w wr
theorem ArS.put {w wr : World} {l : List Ev} {ps : List Int} {k : Nat} {p : Int} (h : ArS w wr l ps k) (hp : ps[k]? = some p) : wr.there w.heap.size (k * 26) 26 ∧ ArS w (wr.setCells w.heap.size (k * 26) (evf l p.toNat).cells) l ps (k + 1) := by
  obtain ⟨cs, hc, hs⟩ := h.c
  have hk := (List.getElem?_eq_some_iff.mp hp).1
  have ht : wr.there w.heap.size (k * 26) 26 := there_block hc (by omega)
  obtain ⟨cs', h1, h2⟩ := cells_keep (evf l p.toNat).cells (k * 26) wr cs hc
  refine ⟨ht, ?_, ⟨cs', h1, by omega⟩, below_setCells (Nat.le_refl _) _ _ _ _ h.b⟩
  have := rows_put h.r (i := k) (by simp [arrE]; omega) (row := (evf l p.toNat).cells) rfl ht
  rw [arr_set hp] at this
  exact this
set_option maxHeartbeats 1000000 in
theorem arranged_any (l : List Ev) (la : Option Addr) (lc : Nat) (ps : List Int) (pa : Option Addr) (pc : Nat) (w : World) (hl : Rows w 26 la lc (l.map Ev.cells)) (hp : Rows w 1 pa pc (ps.map chCells)) (hps : ps.length ≤ 256) (hin : ∀ p ∈ ps, 0 ≤ p ∧ p < (l.length : Int)) :
    Calls Tryd.prog 28 #[.slice la l.length lc, .slice pa ps.length pc] w fun e w' => ∃ A, e = .returned (.slice (some ⟨A, 0, none⟩) ps.length ps.length) ∧ Hid (w.heap.size ≤ A ∧ Rows w' 26 (some ⟨A, 0, none⟩) ps.length ((arrE l ps).map Ev.cells) ∧ Below w.heap.size w w') := by
  obtain ⟨iE, hiE, hzE, hsE, hbE⟩ := info_q infoEv
  have hiH : Hid (Tryd.prog.info? 42 = some iE ∧ iE.zero = some (.agg stEvZ.cells.toArray) ∧ iE.size = 26 ∧ iE.bytes * ps.length ≤ 281474976710656) := ⟨hiE, hzE, hsE, by rw [hbE]; omega⟩
  have hpI : (ps.length : Int) ≤ 256 := by omega
  have hlH : Hid (Rows w 26 la lc (l.map Ev.cells)) := hl
  have hpH : Hid (Rows w 1 pa pc (ps.map chCells)) := hp
  clear hiE hzE hsE hbE hl hp
  go_enter Tryd.func28, Tryd.ntmps28
  go_wp2_with (refine wpList_mkR _ rfl _ _ 22 rfl 42 iE (.agg stEvZ.cells.toArray) 26 Tryd.underlying22 hiH.out.1 hiH.out.2.1 hiH.out.2.2.1 ps.length rfl rfl hiH.out.2.2.2 (by omega) ?_)
  have h0 : Hid (ArS w (w.alloc (.cells (madeCells stEvZ.cells.toArray (ps.length * 26)) 42)) l ps 0) := ⟨by simpa [arrE] using rows_made w ps.length hps 42, ⟨_, heap_alloc_new w _, size_madeCells _ _⟩, boxed w _⟩
  clear hiH
  generalize w.alloc (.cells (madeCells stEvZ.cells.toArray (ps.length * 26)) 42) = W0 at *
  obtain ⟨A, hA⟩ : ∃ A, w.heap.size = A := ⟨_, rfl⟩
  have hAH : Hid (w.heap.size = A) := hA
  rw [hA]
  clear hA
  go_loopw [13] (fun u wr => ∃ k : Nat, k ≤ ps.length ∧ u = .int .i64 k ∧ Hid (ArS w wr l ps k)) (fun u _ => ps.length - (intOf u).toNat)
  case atStart => exact ⟨0, Nat.zero_le _, rfl, h0⟩
  case round =>
    obtain ⟨k, hk, rfl, hs⟩ := hrel
    clear h0
    by_cases hlt : k < ps.length
    · have hkI : (k : Int) < ps.length := by omega
      obtain ⟨p, hp, hpm⟩ := get_lt ps k hlt
      obtain ⟨hp0, hp1⟩ := hin p hpm
      obtain ⟨q, rfl⟩ := Int.eq_ofNat_of_zero_le hp0
      obtain ⟨b1, o1, x1, l1, c1⟩ := ch_ixK (hpH.out.later hs.out.b) k (q : Int) hp
      obtain ⟨b2, o2, x2, l2, r2⟩ := evs_ix (hlH.out.later hs.out.b) q (evf l q) (evf_at (by omega))
      have x3 := ix_made A ps.length k hlt
      have hr2 : Hid (wr.rangeAt b2 o2 (evf l q).cells) := r2
      have hput : Hid (wr.there A (k * 26) 26 ∧ ArS w (wr.setCells A (k * 26) (evf l q).cells) l ps (k + 1)) := by
        have h9 := hs.out.put hp
        rw [Int.toNat_natCast, hAH.out] at h9
        exact h9
      obtain ⟨x, hx⟩ : ∃ x, evf l q = x := ⟨_, rfl⟩
      rw [hx] at hr2 hput
      obtain ⟨cs, hcs⟩ : ∃ cs, x.cells = cs := ⟨_, rfl⟩
      have hth : Hid (wr.there A (k * 26) cs.toArray.size) := by rw [← hcs]; exact hput.out.1
      have hone : Hid (cs.toArray.all (·.oneCell') = true ∧ (Tryd.prog.info? 42).map (·.size) = some cs.length ∧ (Tryd.prog.info? 42).map (·.size) = some cs.toArray.size) := by rw [← hcs]; exact ⟨ev_one x, infoE26, infoE_ev x⟩
      rw [hcs] at hr2 hput
      clear hs r2 hx hcs
      go_wp2_with (first
        | (refine wpList_load_g rfl 42 _ rfl b2 o2 rfl cs _ hr2.out Tryd.underlying42 rfl hone.out.2.1 ?_)
        | (refine wpList_store_mid rfl 42 _ _ rfl A (k * 26) cs.toArray rfl rfl hth.out hone.out.2.2 hone.out.1 ?_))
      go_roundw
      case rel => exact ⟨k + 1, by omega, by go_num, hput.out.2⟩
      case measure => simp [intOf]; omega
    · have hk2 : k = ps.length := by omega
      subst hk2
      go_wp2
      go_ret
      refine ⟨A, rfl, by rw [hAH.out]; exact Nat.le_refl _, ?_, hs.out.b⟩
      have := hs.out.r
      rw [List.take_length, Nat.sub_self, List.replicate_zero, List.append_nil, hAH.out] at this
      exact this
end Go.Proofs.YtkadlopcomjonaaDoor.pg
/- Events in another order, by the document. -/
namespace Go.Proofs.YtkadlopcomjonaaDoor.pg
open Go.ChangeShapes Go.WideShapes Go.ChangeAt Go.RowKit Go.Shelf
set_option linter.unusedVariables false
set_option linter.unusedSimpArgs false
set_option maxRecDepth 100000
theorem evone (x : Ev) : ∀ u ∈ x.cells, u.oneCell' = true := by simp [Ev.cells, Value.oneCell']
/-- A list of events in memory of its own. -/
structure EsS (w : World) (L : List Ev) (va : Option Addr) (vc : Nat) (w' : World) : Prop where
  be : Below w.heap.size w w'
  ow : OwnL w' w.heap.size 42 26 va vc (L.map Ev.cells)
theorem EsS.grown {w w' w2 : World} {L : List Ev} {va va' : Option Addr} {vc vc' : Nat} {x : Ev} (h : EsS w L va vc w') (hg : Grown w' w.heap.size 42 26 va (L.map Ev.cells) x.cells va' vc' w2) : EsS w (L ++ [x]) va' vc' w2 :=
  ⟨by
    have h1 := hg.be
    have h2 := h.be.size
    rw [Nat.min_eq_left h2] at h1
    exact h.be.trans h1, by simpa using hg.ow⟩
set_option maxHeartbeats 1000000 in
theorem laid_any (l : List Ev) (la : Option Addr) (lc : Nat) (ps : List Int) (pa : Option Addr) (pc : Nat) (w : World) (hl : Rows w 26 la lc (l.map Ev.cells)) (hp : Rows w 1 pa pc (ps.map chCells)) (hps : ps.length ≤ 256) (hin : ∀ p ∈ ps, 0 ≤ p ∧ p < (l.length : Int)) :
    Calls Tryd.prog 16 #[.slice la l.length lc, .slice pa ps.length pc] w fun e w' => ∃ va vc, e = .returned (.slice va ps.length vc) ∧ Hid (Rows w' 26 va vc ((arrE l ps).map Ev.cells) ∧ Below w.heap.size w w') := by
  obtain ⟨iE, hiE, hzE, hsE, hbE⟩ := info_q infoEv
  have hiH : Hid (Tryd.prog.info? 42 = some iE ∧ iE.zero = some (.agg stEvZ.cells.toArray) ∧ iE.size = 26 ∧ iE.bytes = 208) := ⟨hiE, hzE, hsE, hbE⟩
  have hpI : (ps.length : Int) ≤ 256 := by omega
  have hlH : Hid (Rows w 26 la lc (l.map Ev.cells)) := hl
  have hpH : Hid (Rows w 1 pa pc (ps.map chCells)) := hp
  clear hiE hzE hsE hbE hl hp
  go_enter Tryd.func16, Tryd.ntmps16
  go_wp2_with fail
  go_loopw [5, 10] (fun v u wr => ∃ (k : Nat) (va : Option Addr) (vc : Nat), k ≤ ps.length ∧ v = .slice va k vc ∧ u = .int .i64 k ∧ Hid (EsS w (arrE l (ps.take k)) va vc wr)) (fun _ u _ => ps.length - (intOf u).toNat)
  case atStart => exact ⟨0, none, 0, Nat.zero_le _, rfl, rfl, ⟨Below.refl _ _, own_nil_q _ _ _ _⟩⟩
  case round =>
    obtain ⟨k, va, vc, hk, rfl, rfl, hs⟩ := hrel
    by_cases hlt : k < ps.length
    · have hkI : (k : Int) < ps.length := by omega
      obtain ⟨p, hp, hpm⟩ := get_lt ps k hlt
      obtain ⟨hp0, hp1⟩ := hin p hpm
      obtain ⟨q, rfl⟩ := Int.eq_ofNat_of_zero_le hp0
      obtain ⟨b1, o1, x1, l1, c1⟩ := ch_ixK (hpH.out.later hs.out.be) k (q : Int) hp
      obtain ⟨b2, o2, x2, l2, r2⟩ := evs_ix (hlH.out.later hs.out.be) q (evf l q) (evf_at (by omega))
      have hr2 : Hid (wr.rangeAt b2 o2 (evf l q).cells) := r2
      have hnx : Hid (arrE l (ps.take (k + 1)) = arrE l (ps.take k) ++ [evf l q]) := by
        show _ = _
        rw [List.take_add_one, hp]
        simp [arrE]
      have hLl : Hid (((arrE l (ps.take k)).map Ev.cells).length = k) := by
        show _ = _
        simp [arrE]; omega
      generalize arrE l (ps.take k) = L at *
      obtain ⟨L2, hL2⟩ : ∃ L2, Hid (arrE l (ps.take (k + 1)) = L2) := ⟨_, rfl⟩
      rw [hL2.out] at hnx
      obtain ⟨x, hx⟩ : ∃ x, evf l q = x := ⟨_, rfl⟩
      rw [hx] at hr2 hnx
      clear r2 hx
      go_wp2_with (first
        | (refine wpList_load_g rfl 42 _ rfl b2 o2 rfl x.cells _ hr2.out Tryd.underlying42 rfl infoE26 ?_)
        | (refine wpList_buildSlice rfl 22 42 1 _ rfl x.cells.toArray iE _ Tryd.underlying22 hiH.out.1 hiH.out.2.1 (by rw [hiH.out.2.2.1]; omega) (by rw [hiH.out.2.2.1]; omega) (by simp only [hiH.out.2.2.1]; kernel_rfl) ?_)
        | (at_builtin; (refine wpList_app1 rfl (.tmp 14) (.tmp 19) 22 rfl w.heap.size 42 iE _ 26 208 Tryd.underlying22 hiH.out.1 hiH.out.2.1 hiH.out.2.2.1 hiH.out.2.2.2 rfl (by decide) va vc (L.map Ev.cells) (by rw [hLl.out]; rfl) hs.out.ow x.cells rfl rfl (evone x) (by rw [hLl.out]; unfold maxLen; omega) (by rw [hLl.out]; omega) hs.out.be.size ?_); intro va' vc' w2 hg; rw [hLl.out]; (have hg2 : Hid (EsS w L2 va' vc' w2) := (by rw [hnx.out]; exact hs.out.grown hg)); clear hg))
      go_roundw
      case rel => exact ⟨k + 1, va', vc', by omega, rfl, by go_num, by rw [hL2.out]; exact hg2⟩
      case measure => simp [intOf]; omega
    · have hk2 : k = ps.length := by omega
      subst hk2
      go_wp2
      go_ret
      refine ⟨va, vc, rfl, ?_, hs.out.be⟩
      have := hs.out.ow
      rw [List.take_length] at this
      exact own_rows this fun row hm => by rw [List.mem_map] at hm; obtain ⟨y, _, rfl⟩ := hm; rfl
end Go.Proofs.YtkadlopcomjonaaDoor.pg
