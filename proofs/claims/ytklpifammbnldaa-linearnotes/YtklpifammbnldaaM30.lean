/- An empty list literal; a row of a list written over. -/
import Derived.Test.YtklpifammbnldaaM19
import Derived.Test.YtklpifammbnldaaM3
import Derived.Test.YtklpifammbnldaaM29
import Derived.Test.YtklpifammbnldaaM28
namespace Go.Proofs.Ytklpifammbnldaa.pg
open Go.ChangeShapes Go.WideShapes Go.ChangeAt Go.RowKit
set_option linter.unusedVariables false
set_option linter.unusedSimpArgs false
theorem wpList_empty {P : Program} {ops : Array Oper} {rest : List Oper} {o : Oper} {a : Act} {w : World} {Q : Exit → Act → World → Prop} (hg : o.guard = none) (t e : TypeId) (ho : o.op = .buildSlice t 0 #[]) (ie : TypeInfo)
    (hu : P.underlying t = some (.slice e)) (hie : P.info? e = some ie)
    (h : wpList P ops Q rest (a.put o.dst (.slice (some ⟨w.heap.size, 0, none⟩) 0 0)) (w.alloc (.cells #[] e))) : wpList P ops Q (o :: rest) a w :=
  wpList_plain hg fun _ hK => by
    have hr : (Instr.buildSlice t 0 #[]).run P w = .ok (.slice (some ⟨w.heap.size, 0, none⟩) 0 0) (w.alloc (.cells #[] e)) := by
      simp [Instr.buildSlice, run_underlying hu, sizeOf, typeInfo, hie, newRow, Instr.fill, go_sem]
    unfold Oper.wp execOp
    simp only [ho, Sem.run_bind, Sem.run_pure, Result.andThen_ok, List.map_toArray, List.map_nil, Array.map_empty, hr]
    exact hK _ _ h
theorem own_empty (w : World) (lo e k : Nat) (hl : lo ≤ w.heap.size) : OwnL (w.alloc (.cells #[] e)) lo e k (some ⟨w.heap.size, 0, none⟩) 0 [] :=
  ⟨by simp, .inr ⟨w.heap.size, 0, #[], rfl, hl, heap_new_q w _, by simp, by unfold maxLen; omega, by simp, by simp⟩⟩
/-- A row of an own list can be written over. -/
theorem own_there {w : World} {lo e k : Nat} {g cap : Nat} {L : List (List Value)} (h : OwnL w lo e k (some ⟨g, 0, none⟩) cap L) (hk : ∀ row ∈ L, row.length = k) {i : Nat} (hi : i < L.length) : w.there g (i * k) k := by
  have hr := own_rows h hk
  obtain ⟨x, hx, hm⟩ := get_lt L i hi
  obtain ⟨b0, off, ha, hlt, hc⟩ := hr.row hx
  intro j hj
  refine ⟨?_, ?_⟩
  · have hlt2 : i * k + j < L.length * k := by
      have : (i + 1) * k ≤ L.length * k := Nat.mul_le_mul_right k hi
      rw [Nat.add_mul] at this
      omega
    rw [World.ownsRow.cellAt h (i * k + j) hlt2, flatten_at L hk i x hx j hj, List.getElem?_eq_getElem (by rw [hk x hm]; exact hj)]
    rfl
  · rcases h.2 with ⟨h1, _⟩ | ⟨g', cap', cur, h1, _, hg, _⟩
    · simp only [Value.slice.injEq] at h1
      cases h1.1
    · simp only [Value.slice.injEq, Option.some.injEq, Addr.mk.injEq, and_true, true_and] at h1
      rw [h1.1]
      exact frozen_of_row _ _ _ _ _ hg
theorem rows_put {w : World} {k g cap : Nat} {L : List (List Value)} (h : Rows w k (some ⟨g, 0, none⟩) cap L) {i : Nat} (hi : i < L.length) {row : List Value} (hr : row.length = k) (ht : w.there g (i * k) k) : Rows (w.setCells g (i * k) row) k (some ⟨g, 0, none⟩) cap (L.set i row) := by
  obtain ⟨h1, h2, h3, h4⟩ := h
  rcases h4 with rfl | ⟨b, off, ha, hlt, hc⟩
  · simp at hi
  · simp only [Option.some.injEq, Addr.mk.injEq, and_true] at ha
    obtain ⟨rfl, rfl⟩ := ha
    refine ⟨by simpa using h1, h2, by simp, .inr ⟨g, 0, rfl, ?_, fun q rw' hq => ?_⟩⟩
    · have := (World.keptBut_setCells g (may := fun _ => True) row (i * k) w (fun _ _ => trivial))
      have hs : w.heap.size ≤ (w.setCells g (i * k) row).heap.size := by
        have e : ∀ (vs : List Value) (o : Nat) (w : World), (w.setCells g o vs).heap.size = w.heap.size := by
          intro vs
          induction vs with
          | nil => intro o w; rfl
          | cons v vs ih => intro o w; simp only [World.setCells]; rw [ih]; exact World.size_setCell _ _ _
        rw [e]; exact Nat.le_refl _
      omega
    · rw [List.getElem?_set] at hq
      by_cases c : i = q
      · subst c
        rw [if_pos rfl, if_pos hi, Option.some.injEq] at hq
        subst hq
        refine ⟨hr, fun j u hj => ?_⟩
        have hjl := (List.getElem?_eq_some_iff.mp hj).1
        rw [Nat.zero_add]
        rw [World.cell?_setCells_in g row (i * k) w (fun j hj => (ht j (by omega)).1) j hjl]
        rw [← hj, List.getElem?_eq_getElem hjl]
      · rw [if_neg c] at hq
        obtain ⟨r1, r2⟩ := hc q rw' hq
        refine ⟨r1, fun j u hj => ?_⟩
        rw [World.cell?_setCells_out g row (i * k) w]
        · exact r2 j u hj
        · intro _ _
          show 0 + (q * k + j) < i * k ∨ i * k + row.length ≤ 0 + (q * k + j)
          have hjl : j < k := by have := (List.getElem?_eq_some_iff.mp hj).1; omega
          rw [hr]
          rcases Nat.lt_or_gt_of_ne c with c | c
          · right
            have : (i + 1) * k ≤ q * k := Nat.mul_le_mul_right k c
            rw [Nat.add_mul] at this
            omega
          · left
            have : (q + 1) * k ≤ i * k := Nat.mul_le_mul_right k c
            rw [Nat.add_mul] at this
            omega
theorem size_setCells (g : Nat) : ∀ (vs : List Value) (o : Nat) (w : World), (w.setCells g o vs).heap.size = w.heap.size
  | [], _, _ => rfl
  | v :: vs, o, w => by simp only [World.setCells]; rw [size_setCells g vs]; exact World.size_setCell _ _ _
theorem below_setCells {n₀ g : Nat} (hg : n₀ ≤ g) : ∀ (vs : List Value) (o : Nat) (w w' : World), Below n₀ w w' → Below n₀ w (w'.setCells g o vs)
  | [], _, _, _, h => h
  | v :: vs, o, w, w', h => below_setCells hg vs (o + 1) w _ (h.setCell (p := ⟨g, o, none⟩) hg v)
theorem rows_ix_g {t e : TypeId} {k : Nat} (hu : Try.prog.underlying t = some (.slice e)) (hz : ∀ wx, (sizeOf e).run Try.prog wx = .ok k wx) (g n cap i : Nat) (h : i < n) : ∀ wx, (Instr.indexAt t (.slice (some ⟨g, 0, none⟩) n cap) (.int .i64 (i : Int))).run Try.prog wx = .ok (.pointer (some ⟨g, i * k, none⟩)) wx := by
  intro wx
  have q1 : (i : Int) < n := by omega
  have q2 : ¬ (i : Int) < 0 := by omega
  simp [Instr.indexAt, run_underlying hu, asIntOf, go_sem, hz, q1, q2, h]
end Go.Proofs.Ytklpifammbnldaa.pg
/- A value put into a list, in the document's own words. -/
namespace Go.Proofs.Ytklpifammbnldaa.pg
open Go.ChangeShapes Go.WideShapes Go.ChangeAt Go.RowKit
set_option linter.unusedVariables false
set_option linter.unusedSimpArgs false
set_option maxRecDepth 100000
attribute [local go_sem ↓] Go.wp_at_zero Go.wp_at_succ
theorem own_onL {V V' : World} {lo e k : Nat} {a : Option Addr} {cap : Nat} {L : List (List Value)} (h : OwnL V lo e k a cap L) (hb : Below V.heap.size V V') : OwnL V' lo e k a cap L := own_keep h fun b hbb => hb.block b (blk_lt h b hbb).2
theorem own_apart2 {V : World} {lo g r : Nat} {cs : Array Value} {t e : TypeId} (hr : V.heap[r]? = some (.cells cs t (0, 0))) (h1 : cs.size = 1) (ho : OwnL V lo e 1 (some ⟨g, 0, none⟩) 0 []) : ¬ r = g := by
  rintro rfl
  rcases ho.2 with ⟨q, _⟩ | ⟨g', cap', cur, q, _, hg, _, _, hs, _⟩
  · simp at q
  · simp only [Value.slice.injEq, Option.some.injEq, Addr.mk.injEq, and_true, true_and] at q
    obtain ⟨rfl, rfl⟩ := q
    rw [hr] at hg
    simp only [Option.some.injEq, Obj.cells.injEq] at hg
    rw [← hg.1, h1] at hs
    omega
theorem infoI64 : (Try.prog.info? 2).map (fun i => (i.zero, i.size, i.bytes)) = some (some (.int .i64 0), 1, 8) := by kernel_rfl
section
variable {w : World}
set_option maxHeartbeats 4000000 in
theorem rdo_4 (k n : Int) (a : Option Addr) (m lc : Nat) (x : Cl) (hd : x.d = 4) (c : List Int) (hm' : m = c.length) (hc : c.length ≤ 7) (hr : Rows w 1 a lc (c.map chCells)) : Calls Try.prog 36 #[.int .i64 k, .agg #[.int .i64 n, .slice a m lc], x.val] w fun e w' => ∃ va vc, e = .returned (.tuple #[.agg #[.int .i64 0, .slice va (c.length + 1) vc], .bool true]) ∧ Rows w' 1 va vc ((c ++ [x.inn]).map chCells) ∧ Below w.heap.size w w' ∧ ∀ g ∈ blk va, w.heap.size < g ∧ g < w'.heap.size := by
  have hro : Hid (Rows w 1 a lc (c.map chCells)) := hr
  have hm : Hid (m = c.length) := hm'
  obtain ⟨iN, hiN', hzN', hsN', hbN'⟩ := info_q infoI64
  have hiN : Hid _ := hiN'
  have hzN : Hid _ := hzN'
  have hsN : Hid _ := hsN'
  have hbN : Hid _ := hbN'
  clear hr hm' hiN' hzN' hsN' hbN'
  have hdH : Hid (x.d = _) := hd
  clear hd
  have hS0 : Hid (DoS w _ n a m lc x) := DoS.start w n a m lc x
  go_enter Try.func36, Try.ntmps36
  go_upto_region 1 with fail
  obtain ⟨X, hX⟩ : ∃ X, ((w.alloc (oDg n a m lc)).alloc (oCl x)).alloc (oDg 0 none 0 0) = X := ⟨_, rfl⟩
  rw [hX] at hS0 ⊢
  obtain ⟨k0, k1, k2, k3, k4, k5, k6⟩ := hS0.out.cells
  rw [hdH.out] at k2
  clear hX
  go_upto_region 10 with fail
  clear k0 k1 k2 k3 k4 k5 k6
  have hc8 : Hid (c.length ≤ 8) := by (show _ ≤ _; omega)
  have hlt0 : Hid (X.heap.size ≤ X.drew.heap.size) := Nat.le_refl _
  have hlt1 : Hid (w.heap.size ≤ X.heap.size) := hS0.out.b.size
  have hoc : Hid (Rows X.drew 1 a lc (c.map chCells)) := (hro.out.later (bthen hS0.out.b (bey_drew X)))
  have hS1 : Hid (X.drew.heap[w.heap.size]? = some (oDg n a m lc) ∧ X.drew.heap[w.heap.size + 1]? = some (oCl x)) := ⟨hS0.out.t, hS0.out.x⟩
  have hlt : Hid (w.heap.size + 1 + 1 < X.drew.heap.size) := (Array.getElem?_eq_some_iff.mp (show X.drew.heap[w.heap.size + 1 + 1]? = some (oDg 0 none 0 0) from hS0.out.r)).1
  have hRd : Hid (∀ w' : World, w'.heap[w.heap.size]? = some (oDg n a m lc) ∧ w'.heap[w.heap.size + 1]? = some (oCl x) → w'.cell? ⟨w.heap.size, 1, none⟩ = some (.slice a m lc) ∧ w'.cell? ⟨w.heap.size + 1, 2, none⟩ = some (.int .i64 x.inn)) := fun w' q => ⟨cell_lc (k := 1) q.1 rfl, cell_lc (k := 2) q.2 rfl⟩
  have hSB : Hid (∀ V, Below X.drew.heap.size X.drew V → V.heap[w.heap.size]? = some (oDg n a m lc) ∧ V.heap[w.heap.size + 1]? = some (oCl x)) := fun V q => ⟨blk_on hS1.out.1 q, blk_on hS1.out.2 q⟩
  refine wp_region_noPanic ?_
  refine wp_region_held_drew (S := fun w' => w'.heap[w.heap.size]? = some (oDg n a m lc) ∧ w'.heap[w.heap.size + 1]? = some (oCl x)) (by kernel_rfl) hS1.out (fun _ => ?_)
  refine reg_move (i := 1) rfl (by kernel_rfl) (by kernel_rfl) (by kernel_rfl) (fun _ _ _ _ h => h) rfl (.pointer (some ⟨w.heap.size, 1, none⟩)) (fun _ => rfl) hS1.out ?_
  simp only [Act.put, List.getElem_toArray, List.getElem_cons_succ, List.getElem_cons_zero, List.setIfInBounds_toArray, List.set_cons_zero, List.set_cons_succ]
  refine reg_load1 (i := 2) rfl (by kernel_rfl) (by kernel_rfl) (by kernel_rfl) (fun _ _ _ _ h => h) rfl 36 _ rfl ⟨w.heap.size, 1, none⟩ rfl _ Try.underlying36 rfl (.slice a m lc) (fun w' q => (hRd.out w' q).1) hS1.out ?_
  simp only [Act.put, List.getElem_toArray, List.getElem_cons_succ, List.getElem_cons_zero, List.setIfInBounds_toArray, List.set_cons_zero, List.set_cons_succ]
  refine reg_move (i := 4) rfl (by kernel_rfl) (by kernel_rfl) (by kernel_rfl) (fun _ _ _ _ h => h) rfl (.pointer (some ⟨w.heap.size + 1, 2, none⟩)) (fun _ => rfl) hS1.out ?_
  simp only [Act.put, List.getElem_toArray, List.getElem_cons_succ, List.getElem_cons_zero, List.setIfInBounds_toArray, List.set_cons_zero, List.set_cons_succ]
  refine reg_load1 (i := 5) rfl (by kernel_rfl) (by kernel_rfl) (by kernel_rfl) (fun _ _ _ _ h => h) rfl 2 _ rfl ⟨w.heap.size + 1, 2, none⟩ rfl _ Try.underlying2 rfl (.int .i64 x.inn) (fun w' q => (hRd.out w' q).2) hS1.out ?_
  simp only [Act.put, List.getElem_toArray, List.getElem_cons_succ, List.getElem_cons_zero, List.setIfInBounds_toArray, List.set_cons_zero, List.set_cons_succ]
  refine wpAnyH_ready (show Region.ready .any _ _ = [0, 6] by kernel_rfl) (by simp) (AllReadyH.cons rfl (arm_list rfl (wpList_empty rfl 36 2 rfl iN Try.underlying36 hiN.out (wpList_nil (And.intro (hSB.out _ (bthen (Below.refl X.drew.heap.size X.drew) (boxed _ _))) fun _ => ?_)))) (AllReadyH.cons rfl (arm_list rfl (wpList_buildSlice rfl 36 2 1 _ rfl (chCells x.inn).toArray iN _ Try.underlying36 hiN.out hzN.out (by rw [hsN.out]; omega) (by rw [hsN.out]; omega) (by simp only [hsN.out]; kernel_rfl) (wpList_nil (And.intro (hSB.out _ (bthen (Below.refl X.drew.heap.size X.drew) (boxed _ _))) fun _ => ?_)))) AllReadyH.nil))
  · simp only [Act.put, List.getElem_toArray, List.getElem_cons_succ, List.getElem_cons_zero, List.setIfInBounds_toArray, List.set_cons_zero, List.set_cons_succ]
    obtain ⟨VE, hVE⟩ : ∃ VE, World.alloc X.drew (.cells #[] 2) = VE := ⟨_, rfl⟩
    obtain ⟨gE, hgE, hE0⟩ : ∃ gE, gE = (World.heap X.drew).size ∧ Hid (Below X.drew.heap.size X.drew VE ∧ OwnL VE X.drew.heap.size 2 1 (some ⟨gE, 0, none⟩) 0 []) := ⟨_, rfl, by (rw [← hVE]; exact ⟨bthen (Below.refl X.drew.heap.size X.drew) (boxed _ _), own_empty _ _ _ _ ((Below.refl X.drew.heap.size X.drew)).size⟩)⟩
    rw [hVE, ← hgE]
    clear hVE hgE
    refine wpAnyH_ready (show Region.ready .any _ _ = [3, 6] by kernel_rfl) (by simp) (AllReadyH.cons rfl (arm_list rfl (wpList_app rfl (.tmp 44) (.tmp 46) 36 rfl X.drew.heap.size 2 iN _ 1 8 Try.underlying36 hiN.out hzN.out hsN.out hbN.out rfl (by decide) (some ⟨gE, 0, none⟩) 0 [] rfl hE0.out.2 a lc (c.map chCells) (by rw [List.length_map, ← hm.out]; rfl) (hoc.out.later hE0.out.1) (fun row hr => by obtain ⟨z, _, rfl⟩ := List.mem_map.mp hr; rfl) (fun row hr u hu => by obtain ⟨z, _, rfl⟩ := List.mem_map.mp hr; simp only [chCells, List.mem_singleton] at hu; subst hu; rfl) (by rw [List.length_map]; have := hc8.out; simp only [List.length_nil]; unfold maxLen; omega) (by rw [List.length_map]; have := hc8.out; simp only [List.length_nil]; omega) (hE0.out.1).size (fun va vc V3 ho3 hk3 hb3 _ => wpList_nil (And.intro (hSB.out _ ((hE0.out.1).trans (by rw [Nat.min_eq_left (hE0.out.1).size] at hb3; exact hb3))) fun _ => ?_)))) (AllReadyH.cons rfl (arm_list rfl (wpList_buildSlice rfl 36 2 1 _ rfl (chCells x.inn).toArray iN _ Try.underlying36 hiN.out hzN.out (by rw [hsN.out]; omega) (by rw [hsN.out]; omega) (by simp only [hsN.out]; kernel_rfl) (wpList_nil (And.intro (hSB.out _ (bthen hE0.out.1 (boxed _ _))) fun _ => ?_)))) AllReadyH.nil))
    · simp only [Act.put, List.getElem_toArray, List.getElem_cons_succ, List.getElem_cons_zero, List.setIfInBounds_toArray, List.set_cons_zero, List.set_cons_succ]
      rw [Nat.min_eq_left (hE0.out.1).size] at hb3
      have hA0 : Hid (Below X.drew.heap.size X.drew V3 ∧ OwnL V3 X.drew.heap.size 2 1 va vc (c.map chCells)) := ⟨(hE0.out.1).trans hb3, ho3⟩
      have hn3 : ([] ++ c.map chCells).length = c.length := by simp
      rw [hn3]
      clear ho3 hk3 hb3 hn3
      refine wpAnyH_ready (show Region.ready .any _ _ = [6] by kernel_rfl) (by simp) (AllReadyH.cons rfl (arm_list rfl (wpList_buildSlice rfl 36 2 1 _ rfl (chCells x.inn).toArray iN _ Try.underlying36 hiN.out hzN.out (by rw [hsN.out]; omega) (by rw [hsN.out]; omega) (by simp only [hsN.out]; kernel_rfl) (wpList_nil (And.intro (hSB.out _ (bthen hA0.out.1 (boxed _ _))) fun _ => ?_)))) AllReadyH.nil)
      simp only [Act.put, List.getElem_toArray, List.getElem_cons_succ, List.getElem_cons_zero, List.setIfInBounds_toArray, List.set_cons_zero, List.set_cons_succ]
      obtain ⟨VR, hVR⟩ : ∃ VR, World.alloc V3 (.cells (chCells x.inn).toArray 2) = VR := ⟨_, rfl⟩
      obtain ⟨RB, hRB, hR0⟩ : ∃ RB, RB = (World.heap V3).size ∧ Hid (Below X.drew.heap.size X.drew VR ∧ VR.heap[RB]? = some (.cells (chCells x.inn).toArray 2 (0, 0)) ∧ OwnL VR X.drew.heap.size 2 1 va vc (c.map chCells)) := ⟨_, rfl, by (rw [← hVR]; exact ⟨bthen hA0.out.1 (boxed _ _), heap_alloc_new _ _, own_onL hA0.out.2 (boxed _ _)⟩)⟩
      rw [hVR, ← hRB]
      clear hVR hRB
      have hL : Hid (Below X.drew.heap.size X.drew VR ∧ OwnL VR X.drew.heap.size 2 1 va vc (c.map chCells) ∧ (World.heap VR)[RB]? = some (.cells (chCells x.inn).toArray 2 (0, 0))) := ⟨hR0.out.1, hR0.out.2.2, hR0.out.2.1⟩
      refine reg_one (i := 7) (by kernel_rfl) rfl rfl (wpList_app rfl (.tmp 47) (.tmp 50) 36 rfl X.drew.heap.size 2 iN _ 1 8 Try.underlying36 hiN.out hzN.out hsN.out hbN.out rfl (by decide) va vc (c.map chCells) (by rw [List.length_map]; rfl) hL.out.2.1 (some ⟨RB, 0, none⟩) 1 ([x.inn].map chCells) rfl (rows_one_q hL.out.2.2 rfl) (fun row hr => by obtain ⟨z, _, rfl⟩ := List.mem_map.mp hr; rfl) (fun row hr u hu => by obtain ⟨z, _, rfl⟩ := List.mem_map.mp hr; simp only [chCells, List.mem_singleton] at hu; subst hu; rfl) (by rw [List.length_map, List.length_map]; have := hc8.out; simp only [List.length_singleton]; unfold maxLen; omega) (by rw [List.length_map, List.length_map]; have := hc8.out; simp only [List.length_singleton]; omega) hL.out.1.size (fun va' vc' V7 ho7 hk7 hb7 _ => wpList_nil (And.intro (hSB.out _ (hL.out.1.trans (by rw [Nat.min_eq_left hL.out.1.size] at hb7; exact hb7))) fun _ => ?_)))
      simp only [Act.put, List.getElem_toArray, List.getElem_cons_succ, List.getElem_cons_zero, List.setIfInBounds_toArray, List.set_cons_zero, List.set_cons_succ]
      rw [Nat.min_eq_left hL.out.1.size] at hb7
      have hD7 : Hid (Below X.drew.heap.size X.drew V7) := hL.out.1.trans hb7
      have hO7 : Hid (OwnL V7 X.drew.heap.size 2 1 va' vc' ((c ++ [x.inn]).map chCells)) := by (rw [List.map_append]; exact ho7)
      have hn7 : ((c.map chCells) ++ ([x.inn].map chCells)).length = c.length + 1 := by simp
      rw [hn7]
      clear ho7 hk7 hb7 hn7
      have hr7 : Hid (V7.heap[w.heap.size + 1 + 1]? = some (oDg 0 none 0 0)) := blk_on (show X.drew.heap[w.heap.size + 1 + 1]? = some (oDg 0 none 0 0) from hS0.out.r) hD7.out
      have hS7 : Hid (V7.heap[w.heap.size]? = some (oDg n a m lc) ∧ V7.heap[w.heap.size + 1]? = some (oCl x)) := hSB.out _ hD7.out
      have hS8 : Hid ((V7.setRow (w.heap.size + 1 + 1) #[.int .i64 0, .slice va' (c.length + 1) vc']).heap[w.heap.size]? = some (oDg n a m lc) ∧ (V7.setRow (w.heap.size + 1 + 1) #[.int .i64 0, .slice va' (c.length + 1) vc']).heap[w.heap.size + 1]? = some (oCl x)) := ⟨(setRow_other _ _ _ _ (by omega)).trans hS7.out.1, (setRow_other _ _ _ _ (by omega)).trans hS7.out.2⟩
      refine reg_move (i := 8) rfl (by kernel_rfl) (by kernel_rfl) (by kernel_rfl) (fun _ _ _ _ h => h) rfl (.agg #[.int .i64 0, .slice va' (c.length + 1) vc']) (fun wx => by unfold execOp; exact run_val2 (by simp only [List.map_toArray, List.map_cons, List.map_nil]; exact bld_D1 va' (c.length + 1) vc' wx)) hS7.out ?_
      simp only [Act.put, List.getElem_toArray, List.getElem_cons_succ, List.getElem_cons_zero, List.setIfInBounds_toArray, List.set_cons_zero, List.set_cons_succ]
      refine reg_one (i := 9) (by kernel_rfl) rfl rfl (wpList_store_row rfl TD6 _ _ rfl (w.heap.size + 1 + 1) #[.int .i64 0, .slice va' (c.length + 1) vc'] rfl rfl _ _ hr7.out infoDg rfl (dg_one _ _ _ _) (wpList_nil (And.intro hS8.out fun _ => ?_)))
      simp only [Act.put, List.getElem_toArray, List.getElem_cons_succ, List.getElem_cons_zero, List.setIfInBounds_toArray, List.set_cons_zero, List.set_cons_succ]
      refine reg_move (i := 10) rfl (by kernel_rfl) (by kernel_rfl) (by kernel_rfl) (fun _ _ _ _ h => h) rfl (.bool true) (fun _ => rfl) hS8.out ?_
      simp only [Act.put, List.getElem_toArray, List.getElem_cons_succ, List.getElem_cons_zero, List.setIfInBounds_toArray, List.set_cons_zero, List.set_cons_succ]
      refine wpAnyH_done (by kernel_rfl) (NoPanic.normal ?_) _
      go_wp2
      refine bodyPost_ret (results_d2 Try.results36 _ _ (w.heap.size + 1 + 1) #[.int .i64 0, .slice va' (c.length + 1) vc'] (.bool true) rfl rfl rfl (setRow_heap _ _ _ _ _ _ hr7.out)) rfl ⟨va', vc', rfl, ?_, below_setRow (hS0.out.b.trans ((bey_drew X).trans (hD7.out.mono hlt0.out) |>.mono hlt1.out)) (by omega) _, fun g hg => ⟨by have := (blk_lt hO7.out g hg).1; have := hlt.out; omega, by rw [setRow_size]; exact (blk_lt hO7.out g hg).2⟩⟩
      exact rows_keepL (own_rows hO7.out (fun row hr => by obtain ⟨z, _, rfl⟩ := List.mem_map.mp hr; rfl)) fun g hg => setRow_other _ _ _ _ (by have := (blk_lt hO7.out g hg).1; have := hlt.out; omega)
    · simp only [Act.put, List.getElem_toArray, List.getElem_cons_succ, List.getElem_cons_zero, List.setIfInBounds_toArray, List.set_cons_zero, List.set_cons_succ]
      obtain ⟨VR, hVR⟩ : ∃ VR, World.alloc VE (.cells (chCells x.inn).toArray 2) = VR := ⟨_, rfl⟩
      obtain ⟨RB, hRB, hR0⟩ : ∃ RB, RB = (World.heap VE).size ∧ Hid (Below X.drew.heap.size X.drew VR ∧ VR.heap[RB]? = some (.cells (chCells x.inn).toArray 2 (0, 0)) ∧ OwnL VR X.drew.heap.size 2 1 (some ⟨gE, 0, none⟩) 0 []) := ⟨_, rfl, by (rw [← hVR]; exact ⟨bthen hE0.out.1 (boxed _ _), heap_alloc_new _ _, own_onL hE0.out.2 (boxed _ _)⟩)⟩
      rw [hVR, ← hRB]
      clear hVR hRB
      refine wpAnyH_ready (show Region.ready .any _ _ = [3] by kernel_rfl) (by simp) (AllReadyH.cons rfl (arm_list rfl (wpList_app rfl (.tmp 44) (.tmp 46) 36 rfl X.drew.heap.size 2 iN _ 1 8 Try.underlying36 hiN.out hzN.out hsN.out hbN.out rfl (by decide) (some ⟨gE, 0, none⟩) 0 [] rfl hR0.out.2.2 a lc (c.map chCells) (by rw [List.length_map, ← hm.out]; rfl) (hoc.out.later hR0.out.1) (fun row hr => by obtain ⟨z, _, rfl⟩ := List.mem_map.mp hr; rfl) (fun row hr u hu => by obtain ⟨z, _, rfl⟩ := List.mem_map.mp hr; simp only [chCells, List.mem_singleton] at hu; subst hu; rfl) (by rw [List.length_map]; have := hc8.out; simp only [List.length_nil]; unfold maxLen; omega) (by rw [List.length_map]; have := hc8.out; simp only [List.length_nil]; omega) (hR0.out.1).size (fun va vc V3 ho3 hk3 hb3 _ => wpList_nil (And.intro (hSB.out _ ((hR0.out.1).trans (by rw [Nat.min_eq_left (hR0.out.1).size] at hb3; exact hb3))) fun _ => ?_)))) AllReadyH.nil)
      simp only [Act.put, List.getElem_toArray, List.getElem_cons_succ, List.getElem_cons_zero, List.setIfInBounds_toArray, List.set_cons_zero, List.set_cons_succ]
      rw [Nat.min_eq_left (hR0.out.1).size] at hb3
      have hA0 : Hid (Below X.drew.heap.size X.drew V3 ∧ OwnL V3 X.drew.heap.size 2 1 va vc (c.map chCells) ∧ V3.heap[RB]? = some (.cells (chCells x.inn).toArray 2 (0, 0))) := ⟨(hR0.out.1).trans hb3, ho3, (hk3 _ (Array.getElem?_eq_some_iff.mp hR0.out.2.1).1 (by simp only [blk, List.mem_singleton]; exact own_apart2 hR0.out.2.1 rfl hR0.out.2.2)).trans hR0.out.2.1⟩
      have hn3 : ([] ++ c.map chCells).length = c.length := by simp
      rw [hn3]
      clear ho3 hk3 hb3 hn3
      have hL : Hid (Below X.drew.heap.size X.drew V3 ∧ OwnL V3 X.drew.heap.size 2 1 va vc (c.map chCells) ∧ (World.heap V3)[RB]? = some (.cells (chCells x.inn).toArray 2 (0, 0))) := ⟨hA0.out.1, hA0.out.2.1, hA0.out.2.2⟩
      refine reg_one (i := 7) (by kernel_rfl) rfl rfl (wpList_app rfl (.tmp 47) (.tmp 50) 36 rfl X.drew.heap.size 2 iN _ 1 8 Try.underlying36 hiN.out hzN.out hsN.out hbN.out rfl (by decide) va vc (c.map chCells) (by rw [List.length_map]; rfl) hL.out.2.1 (some ⟨RB, 0, none⟩) 1 ([x.inn].map chCells) rfl (rows_one_q hL.out.2.2 rfl) (fun row hr => by obtain ⟨z, _, rfl⟩ := List.mem_map.mp hr; rfl) (fun row hr u hu => by obtain ⟨z, _, rfl⟩ := List.mem_map.mp hr; simp only [chCells, List.mem_singleton] at hu; subst hu; rfl) (by rw [List.length_map, List.length_map]; have := hc8.out; simp only [List.length_singleton]; unfold maxLen; omega) (by rw [List.length_map, List.length_map]; have := hc8.out; simp only [List.length_singleton]; omega) hL.out.1.size (fun va' vc' V7 ho7 hk7 hb7 _ => wpList_nil (And.intro (hSB.out _ (hL.out.1.trans (by rw [Nat.min_eq_left hL.out.1.size] at hb7; exact hb7))) fun _ => ?_)))
      simp only [Act.put, List.getElem_toArray, List.getElem_cons_succ, List.getElem_cons_zero, List.setIfInBounds_toArray, List.set_cons_zero, List.set_cons_succ]
      rw [Nat.min_eq_left hL.out.1.size] at hb7
      have hD7 : Hid (Below X.drew.heap.size X.drew V7) := hL.out.1.trans hb7
      have hO7 : Hid (OwnL V7 X.drew.heap.size 2 1 va' vc' ((c ++ [x.inn]).map chCells)) := by (rw [List.map_append]; exact ho7)
      have hn7 : ((c.map chCells) ++ ([x.inn].map chCells)).length = c.length + 1 := by simp
      rw [hn7]
      clear ho7 hk7 hb7 hn7
      have hr7 : Hid (V7.heap[w.heap.size + 1 + 1]? = some (oDg 0 none 0 0)) := blk_on (show X.drew.heap[w.heap.size + 1 + 1]? = some (oDg 0 none 0 0) from hS0.out.r) hD7.out
      have hS7 : Hid (V7.heap[w.heap.size]? = some (oDg n a m lc) ∧ V7.heap[w.heap.size + 1]? = some (oCl x)) := hSB.out _ hD7.out
      have hS8 : Hid ((V7.setRow (w.heap.size + 1 + 1) #[.int .i64 0, .slice va' (c.length + 1) vc']).heap[w.heap.size]? = some (oDg n a m lc) ∧ (V7.setRow (w.heap.size + 1 + 1) #[.int .i64 0, .slice va' (c.length + 1) vc']).heap[w.heap.size + 1]? = some (oCl x)) := ⟨(setRow_other _ _ _ _ (by omega)).trans hS7.out.1, (setRow_other _ _ _ _ (by omega)).trans hS7.out.2⟩
      refine reg_move (i := 8) rfl (by kernel_rfl) (by kernel_rfl) (by kernel_rfl) (fun _ _ _ _ h => h) rfl (.agg #[.int .i64 0, .slice va' (c.length + 1) vc']) (fun wx => by unfold execOp; exact run_val2 (by simp only [List.map_toArray, List.map_cons, List.map_nil]; exact bld_D1 va' (c.length + 1) vc' wx)) hS7.out ?_
      simp only [Act.put, List.getElem_toArray, List.getElem_cons_succ, List.getElem_cons_zero, List.setIfInBounds_toArray, List.set_cons_zero, List.set_cons_succ]
      refine reg_one (i := 9) (by kernel_rfl) rfl rfl (wpList_store_row rfl TD6 _ _ rfl (w.heap.size + 1 + 1) #[.int .i64 0, .slice va' (c.length + 1) vc'] rfl rfl _ _ hr7.out infoDg rfl (dg_one _ _ _ _) (wpList_nil (And.intro hS8.out fun _ => ?_)))
      simp only [Act.put, List.getElem_toArray, List.getElem_cons_succ, List.getElem_cons_zero, List.setIfInBounds_toArray, List.set_cons_zero, List.set_cons_succ]
      refine reg_move (i := 10) rfl (by kernel_rfl) (by kernel_rfl) (by kernel_rfl) (fun _ _ _ _ h => h) rfl (.bool true) (fun _ => rfl) hS8.out ?_
      simp only [Act.put, List.getElem_toArray, List.getElem_cons_succ, List.getElem_cons_zero, List.setIfInBounds_toArray, List.set_cons_zero, List.set_cons_succ]
      refine wpAnyH_done (by kernel_rfl) (NoPanic.normal ?_) _
      go_wp2
      refine bodyPost_ret (results_d2 Try.results36 _ _ (w.heap.size + 1 + 1) #[.int .i64 0, .slice va' (c.length + 1) vc'] (.bool true) rfl rfl rfl (setRow_heap _ _ _ _ _ _ hr7.out)) rfl ⟨va', vc', rfl, ?_, below_setRow (hS0.out.b.trans ((bey_drew X).trans (hD7.out.mono hlt0.out) |>.mono hlt1.out)) (by omega) _, fun g hg => ⟨by have := (blk_lt hO7.out g hg).1; have := hlt.out; omega, by rw [setRow_size]; exact (blk_lt hO7.out g hg).2⟩⟩
      exact rows_keepL (own_rows hO7.out (fun row hr => by obtain ⟨z, _, rfl⟩ := List.mem_map.mp hr; rfl)) fun g hg => setRow_other _ _ _ _ (by have := (blk_lt hO7.out g hg).1; have := hlt.out; omega)
  · simp only [Act.put, List.getElem_toArray, List.getElem_cons_succ, List.getElem_cons_zero, List.setIfInBounds_toArray, List.set_cons_zero, List.set_cons_succ]
    obtain ⟨VR, hVR⟩ : ∃ VR, World.alloc X.drew (.cells (chCells x.inn).toArray 2) = VR := ⟨_, rfl⟩
    obtain ⟨RB, hRB, hR0⟩ : ∃ RB, RB = (World.heap X.drew).size ∧ Hid (Below X.drew.heap.size X.drew VR ∧ VR.heap[RB]? = some (.cells (chCells x.inn).toArray 2 (0, 0))) := ⟨_, rfl, by (rw [← hVR]; exact ⟨bthen (Below.refl X.drew.heap.size X.drew) (boxed _ _), heap_alloc_new _ _⟩)⟩
    rw [hVR, ← hRB]
    clear hVR hRB
    refine wpAnyH_ready (show Region.ready .any _ _ = [0] by kernel_rfl) (by simp) (AllReadyH.cons rfl (arm_list rfl (wpList_empty rfl 36 2 rfl iN Try.underlying36 hiN.out (wpList_nil (And.intro (hSB.out _ (bthen hR0.out.1 (boxed _ _))) fun _ => ?_)))) AllReadyH.nil)
    simp only [Act.put, List.getElem_toArray, List.getElem_cons_succ, List.getElem_cons_zero, List.setIfInBounds_toArray, List.set_cons_zero, List.set_cons_succ]
    obtain ⟨VE, hVE⟩ : ∃ VE, World.alloc VR (.cells #[] 2) = VE := ⟨_, rfl⟩
    obtain ⟨gE, hgE, hE0⟩ : ∃ gE, gE = (World.heap VR).size ∧ Hid (Below X.drew.heap.size X.drew VE ∧ OwnL VE X.drew.heap.size 2 1 (some ⟨gE, 0, none⟩) 0 [] ∧ VE.heap[RB]? = some (.cells (chCells x.inn).toArray 2 (0, 0))) := ⟨_, rfl, by (rw [← hVE]; exact ⟨bthen hR0.out.1 (boxed _ _), own_empty _ _ _ _ (hR0.out.1).size, blk_on hR0.out.2 (boxed _ _)⟩)⟩
    rw [hVE, ← hgE]
    clear hVE hgE
    refine wpAnyH_ready (show Region.ready .any _ _ = [3] by kernel_rfl) (by simp) (AllReadyH.cons rfl (arm_list rfl (wpList_app rfl (.tmp 44) (.tmp 46) 36 rfl X.drew.heap.size 2 iN _ 1 8 Try.underlying36 hiN.out hzN.out hsN.out hbN.out rfl (by decide) (some ⟨gE, 0, none⟩) 0 [] rfl hE0.out.2.1 a lc (c.map chCells) (by rw [List.length_map, ← hm.out]; rfl) (hoc.out.later hE0.out.1) (fun row hr => by obtain ⟨z, _, rfl⟩ := List.mem_map.mp hr; rfl) (fun row hr u hu => by obtain ⟨z, _, rfl⟩ := List.mem_map.mp hr; simp only [chCells, List.mem_singleton] at hu; subst hu; rfl) (by rw [List.length_map]; have := hc8.out; simp only [List.length_nil]; unfold maxLen; omega) (by rw [List.length_map]; have := hc8.out; simp only [List.length_nil]; omega) (hE0.out.1).size (fun va vc V3 ho3 hk3 hb3 _ => wpList_nil (And.intro (hSB.out _ ((hE0.out.1).trans (by rw [Nat.min_eq_left (hE0.out.1).size] at hb3; exact hb3))) fun _ => ?_)))) AllReadyH.nil)
    simp only [Act.put, List.getElem_toArray, List.getElem_cons_succ, List.getElem_cons_zero, List.setIfInBounds_toArray, List.set_cons_zero, List.set_cons_succ]
    rw [Nat.min_eq_left (hE0.out.1).size] at hb3
    have hA0 : Hid (Below X.drew.heap.size X.drew V3 ∧ OwnL V3 X.drew.heap.size 2 1 va vc (c.map chCells) ∧ V3.heap[RB]? = some (.cells (chCells x.inn).toArray 2 (0, 0))) := ⟨(hE0.out.1).trans hb3, ho3, (hk3 _ (Array.getElem?_eq_some_iff.mp hE0.out.2.2).1 (by simp only [blk, List.mem_singleton]; exact own_apart2 hE0.out.2.2 rfl hE0.out.2.1)).trans hE0.out.2.2⟩
    have hn3 : ([] ++ c.map chCells).length = c.length := by simp
    rw [hn3]
    clear ho3 hk3 hb3 hn3
    have hL : Hid (Below X.drew.heap.size X.drew V3 ∧ OwnL V3 X.drew.heap.size 2 1 va vc (c.map chCells) ∧ (World.heap V3)[RB]? = some (.cells (chCells x.inn).toArray 2 (0, 0))) := ⟨hA0.out.1, hA0.out.2.1, hA0.out.2.2⟩
    refine reg_one (i := 7) (by kernel_rfl) rfl rfl (wpList_app rfl (.tmp 47) (.tmp 50) 36 rfl X.drew.heap.size 2 iN _ 1 8 Try.underlying36 hiN.out hzN.out hsN.out hbN.out rfl (by decide) va vc (c.map chCells) (by rw [List.length_map]; rfl) hL.out.2.1 (some ⟨RB, 0, none⟩) 1 ([x.inn].map chCells) rfl (rows_one_q hL.out.2.2 rfl) (fun row hr => by obtain ⟨z, _, rfl⟩ := List.mem_map.mp hr; rfl) (fun row hr u hu => by obtain ⟨z, _, rfl⟩ := List.mem_map.mp hr; simp only [chCells, List.mem_singleton] at hu; subst hu; rfl) (by rw [List.length_map, List.length_map]; have := hc8.out; simp only [List.length_singleton]; unfold maxLen; omega) (by rw [List.length_map, List.length_map]; have := hc8.out; simp only [List.length_singleton]; omega) hL.out.1.size (fun va' vc' V7 ho7 hk7 hb7 _ => wpList_nil (And.intro (hSB.out _ (hL.out.1.trans (by rw [Nat.min_eq_left hL.out.1.size] at hb7; exact hb7))) fun _ => ?_)))
    simp only [Act.put, List.getElem_toArray, List.getElem_cons_succ, List.getElem_cons_zero, List.setIfInBounds_toArray, List.set_cons_zero, List.set_cons_succ]
    rw [Nat.min_eq_left hL.out.1.size] at hb7
    have hD7 : Hid (Below X.drew.heap.size X.drew V7) := hL.out.1.trans hb7
    have hO7 : Hid (OwnL V7 X.drew.heap.size 2 1 va' vc' ((c ++ [x.inn]).map chCells)) := by (rw [List.map_append]; exact ho7)
    have hn7 : ((c.map chCells) ++ ([x.inn].map chCells)).length = c.length + 1 := by simp
    rw [hn7]
    clear ho7 hk7 hb7 hn7
    have hr7 : Hid (V7.heap[w.heap.size + 1 + 1]? = some (oDg 0 none 0 0)) := blk_on (show X.drew.heap[w.heap.size + 1 + 1]? = some (oDg 0 none 0 0) from hS0.out.r) hD7.out
    have hS7 : Hid (V7.heap[w.heap.size]? = some (oDg n a m lc) ∧ V7.heap[w.heap.size + 1]? = some (oCl x)) := hSB.out _ hD7.out
    have hS8 : Hid ((V7.setRow (w.heap.size + 1 + 1) #[.int .i64 0, .slice va' (c.length + 1) vc']).heap[w.heap.size]? = some (oDg n a m lc) ∧ (V7.setRow (w.heap.size + 1 + 1) #[.int .i64 0, .slice va' (c.length + 1) vc']).heap[w.heap.size + 1]? = some (oCl x)) := ⟨(setRow_other _ _ _ _ (by omega)).trans hS7.out.1, (setRow_other _ _ _ _ (by omega)).trans hS7.out.2⟩
    refine reg_move (i := 8) rfl (by kernel_rfl) (by kernel_rfl) (by kernel_rfl) (fun _ _ _ _ h => h) rfl (.agg #[.int .i64 0, .slice va' (c.length + 1) vc']) (fun wx => by unfold execOp; exact run_val2 (by simp only [List.map_toArray, List.map_cons, List.map_nil]; exact bld_D1 va' (c.length + 1) vc' wx)) hS7.out ?_
    simp only [Act.put, List.getElem_toArray, List.getElem_cons_succ, List.getElem_cons_zero, List.setIfInBounds_toArray, List.set_cons_zero, List.set_cons_succ]
    refine reg_one (i := 9) (by kernel_rfl) rfl rfl (wpList_store_row rfl TD6 _ _ rfl (w.heap.size + 1 + 1) #[.int .i64 0, .slice va' (c.length + 1) vc'] rfl rfl _ _ hr7.out infoDg rfl (dg_one _ _ _ _) (wpList_nil (And.intro hS8.out fun _ => ?_)))
    simp only [Act.put, List.getElem_toArray, List.getElem_cons_succ, List.getElem_cons_zero, List.setIfInBounds_toArray, List.set_cons_zero, List.set_cons_succ]
    refine reg_move (i := 10) rfl (by kernel_rfl) (by kernel_rfl) (by kernel_rfl) (fun _ _ _ _ h => h) rfl (.bool true) (fun _ => rfl) hS8.out ?_
    simp only [Act.put, List.getElem_toArray, List.getElem_cons_succ, List.getElem_cons_zero, List.setIfInBounds_toArray, List.set_cons_zero, List.set_cons_succ]
    refine wpAnyH_done (by kernel_rfl) (NoPanic.normal ?_) _
    go_wp2
    refine bodyPost_ret (results_d2 Try.results36 _ _ (w.heap.size + 1 + 1) #[.int .i64 0, .slice va' (c.length + 1) vc'] (.bool true) rfl rfl rfl (setRow_heap _ _ _ _ _ _ hr7.out)) rfl ⟨va', vc', rfl, ?_, below_setRow (hS0.out.b.trans ((bey_drew X).trans (hD7.out.mono hlt0.out) |>.mono hlt1.out)) (by omega) _, fun g hg => ⟨by have := (blk_lt hO7.out g hg).1; have := hlt.out; omega, by rw [setRow_size]; exact (blk_lt hO7.out g hg).2⟩⟩
    exact rows_keepL (own_rows hO7.out (fun row hr => by obtain ⟨z, _, rfl⟩ := List.mem_map.mp hr; rfl)) fun g hg => setRow_other _ _ _ _ (by have := (blk_lt hO7.out g hg).1; have := hlt.out; omega)
end
end Go.Proofs.Ytklpifammbnldaa.pg
/- A value taken out of a list, in the document's own words. -/
namespace Go.Proofs.Ytklpifammbnldaa.pg
open Go.ChangeShapes Go.WideShapes Go.ChangeAt Go.RowKit
set_option linter.unusedVariables false
set_option linter.unusedSimpArgs false
set_option maxRecDepth 100000
attribute [local go_sem ↓] Go.wp_at_zero Go.wp_at_succ
theorem rows_drop1 {w : World} {b off lc : Nat} {L : List (List Value)} (h : Rows w 1 (some ⟨b, off, none⟩) lc L) (j : Nat) (hj : j ≤ L.length) : Rows w 1 (some ⟨b, off + j, none⟩) (lc - j) (L.drop j) := by
  obtain ⟨h1, h2, h3, h4⟩ := h
  refine ⟨by rw [List.length_drop]; omega, by omega, fun q => by simp at q, ?_⟩
  rcases h4 with rfl | ⟨b', off', ha, hlt, hc⟩
  · exact .inl (by simp)
  · simp only [Option.some.injEq, Addr.mk.injEq, and_true] at ha
    obtain ⟨rfl, rfl⟩ := ha
    refine .inr ⟨b, off + j, rfl, hlt, fun i row hi => ?_⟩
    rw [List.getElem?_drop] at hi
    refine ⟨(hc _ _ hi).1, fun t u ht => ?_⟩
    have := (hc _ _ hi).2 t u ht
    rwa [show off + j + (i * 1 + t) = off + ((j + i) * 1 + t) by omega]
theorem cut64 (a : Option Addr) (n cap j : Nat) (hj : j ≤ cap) (hc : cap ≤ 9223372036854775807) : ∀ wx, (Instr.sliceAt 36 (.slice a n cap) none (some (.int .i64 (j : Int))) none).run Try.prog wx = .ok (.slice a j cap) wx := by
  intro wx
  have u := Try.underlying36
  have z := Try.sizeOf2
  have h1 : (j : Int) ≤ cap := by omega
  have h2 : ¬ (cap : Int) < j := by omega
  have h3 : ¬ (j : Int) < 0 := by omega
  cases a <;> simp [Instr.sliceAt, run_underlying u, asIntOf, go_sem, z, h1, h2, h3, hj]
theorem tail64 (b off n cap p : Nat) (hp : p ≤ n) (hn : n ≤ cap) (hc : cap ≤ 9223372036854775807) : ∃ o2, (∀ wx, (Instr.sliceAt 36 (.slice (some ⟨b, off, none⟩) n cap) (some (.int .i64 (p : Int))) none none).run Try.prog wx = .ok (.slice (some ⟨b, o2, none⟩) (n - p) (cap - p)) wx) ∧ ∀ (wx : World) (L : List (List Value)), L.length = n → Rows wx 1 (some ⟨b, off, none⟩) cap L → Rows wx 1 (some ⟨b, o2, none⟩) (cap - p) (L.drop p) := by
  have u := Try.underlying36
  have z := Try.sizeOf2
  by_cases e : p = cap
  · refine ⟨off, fun wx => ?_, fun wx L hl hr => ⟨?_, by omega, fun q => by simp at q, .inl ?_⟩⟩
    · have h1 : n = cap := by omega
      subst h1
      subst e
      simp [Instr.sliceAt, run_underlying u, asIntOf, go_sem, z, Addr.add]
    · rw [List.length_drop]; omega
    · exact List.drop_eq_nil_of_le (by omega)
  · refine ⟨off + p, fun wx => ?_, fun wx L hl hr => rows_drop1 hr p (by omega)⟩
    have q2 : (p : Int) ≤ n := by omega
    have q3 : (n : Int) ≤ cap := by omega
    have q4 : ¬ (cap : Int) - p = 0 := by omega
    simp [Instr.sliceAt, run_underlying u, asIntOf, go_sem, z, q2, q3, q4, e, Addr.add]
    rw [if_neg (by omega)]
    by_cases h : p = 0
    · subst h; rfl
    · rw [if_neg h]
theorem ch64_ix {w : World} {a : Option Addr} {cap : Nat} {l : List Int} (h : Rows w 1 a cap (l.map chCells)) (i : Nat) (x : Int) (hi : l[i]? = some x) :
    ∃ b o, (∀ wx, (Instr.indexAt 36 (.slice a l.length cap) (.int .i64 (i : Int))).run Try.prog wx = .ok (.pointer (some ⟨b, o, none⟩)) wx) ∧ b < w.heap.size ∧ w.cell? ⟨b, o, none⟩ = some (.int .i64 x) := by
  obtain ⟨b, o, hr, hlt, hc⟩ := h.ix 36 2 Try.underlying36 (by kernel_rfl) (fun wx => Try.sizeOf2 wx) i (row := chCells x) (by simp [hi])
  rw [List.length_map] at hr
  exact ⟨b, o, hr, hlt, hc 0 _ rfl⟩
section
variable {w : World}
set_option maxHeartbeats 4000000 in
theorem rdo_5e (k n : Int) (a : Option Addr) (m lc : Nat) (x : Cl) (hd : x.d = 5) (hm : m = 0) (p : Bool) (hp : (x.en != -1) = p) : Calls Try.prog 36 #[.int .i64 k, .agg #[.int .i64 n, .slice a m lc], x.val] w fun e w' => e = .returned (.tuple #[.agg #[.int .i64 n, .slice a m lc], .bool (!p || x.em)]) ∧ Below w.heap.size w w' := by
  have hmH : Hid (m = 0) := hm
  clear hm
  have hdH : Hid (x.d = _) := hd
  clear hd
  have hS0 : Hid (DoS w _ n a m lc x) := DoS.start w n a m lc x
  go_enter Try.func36, Try.ntmps36
  go_upto_region 1 with fail
  obtain ⟨X, hX⟩ : ∃ X, ((w.alloc (oDg n a m lc)).alloc (oCl x)).alloc (oDg 0 none 0 0) = X := ⟨_, rfl⟩
  rw [hX] at hS0 ⊢
  obtain ⟨k0, k1, k2, k3, k4, k5, k6⟩ := hS0.out.cells
  rw [hdH.out] at k2
  clear hX
  have hm0 : ((m : Int) == 0) = true := by rw [hmH.out]; rfl
  cases p with
  | true =>
    go_upto_region 12 with fail
    have hS1 : Hid (X.drew.heap[w.heap.size]? = some (oDg n a m lc) ∧ X.drew.heap[w.heap.size + 1]? = some (oCl x)) := ⟨hS0.out.t, hS0.out.x⟩
    have hRd : Hid (∀ w' : World, w'.heap[w.heap.size]? = some (oDg n a m lc) ∧ w'.heap[w.heap.size + 1]? = some (oCl x) → w'.rangeAt w.heap.size 0 (dV n a m lc) ∧ w'.cell? ⟨w.heap.size + 1, 4, none⟩ = some (.bool x.em)) := fun w' q => ⟨rng_blk q.1, cell_lc (k := 4) q.2 rfl⟩
    have hSe : Hid ((X.drew.setRow (w.heap.size + 1 + 1) #[.int .i64 n, .slice a m lc]).heap[w.heap.size]? = some (oDg n a m lc) ∧ (X.drew.setRow (w.heap.size + 1 + 1) #[.int .i64 n, .slice a m lc]).heap[w.heap.size + 1]? = some (oCl x)) := ⟨(setRow_other _ _ _ _ (by omega)).trans hS1.out.1, (setRow_other _ _ _ _ (by omega)).trans hS1.out.2⟩
    refine wp_region_noPanic ?_
    refine wp_region_held_drew (S := fun w' => w'.heap[w.heap.size]? = some (oDg n a m lc) ∧ w'.heap[w.heap.size + 1]? = some (oCl x)) (by kernel_rfl) hS1.out (fun _ => ?_)
    refine reg_load (i := 0) rfl (by kernel_rfl) (by kernel_rfl) (by kernel_rfl) (fun _ _ _ _ h => h) rfl 75 _ rfl w.heap.size 0 rfl (dV n a m lc) _ (fun w' q => (hRd.out w' q).1) Try.underlying75 rfl infoDg hS1.out ?_
    simp only [Act.put, List.getElem_toArray, List.getElem_cons_succ, List.getElem_cons_zero, List.setIfInBounds_toArray, List.set_cons_zero, List.set_cons_succ]
    refine reg_move (i := 1) rfl (by kernel_rfl) (by kernel_rfl) (by kernel_rfl) (fun _ _ _ _ h => h) rfl (.bool true) (fun _ => rfl) hS1.out ?_
    simp only [Act.put, List.getElem_toArray, List.getElem_cons_succ, List.getElem_cons_zero, List.setIfInBounds_toArray, List.set_cons_zero, List.set_cons_succ]
    refine reg_move (i := 2) rfl (by kernel_rfl) (by kernel_rfl) (by kernel_rfl) (fun _ _ _ _ h => h) rfl (.bool false) (fun _ => rfl) hS1.out ?_
    simp only [Act.put, List.getElem_toArray, List.getElem_cons_succ, List.getElem_cons_zero, List.setIfInBounds_toArray, List.set_cons_zero, List.set_cons_succ]
    refine reg_move (i := 3) rfl (by kernel_rfl) (by kernel_rfl) (by kernel_rfl) (fun _ _ _ _ h => h) rfl (.bool false) (fun _ => rfl) hS1.out ?_
    simp only [Act.put, List.getElem_toArray, List.getElem_cons_succ, List.getElem_cons_zero, List.setIfInBounds_toArray, List.set_cons_zero, List.set_cons_succ]
    refine reg_move (i := 4) rfl (by kernel_rfl) (by kernel_rfl) (by kernel_rfl) (fun _ _ _ _ h => h) rfl (.pointer (some ⟨w.heap.size + 1, 4, none⟩)) (fun _ => rfl) hS1.out ?_
    simp only [Act.put, List.getElem_toArray, List.getElem_cons_succ, List.getElem_cons_zero, List.setIfInBounds_toArray, List.set_cons_zero, List.set_cons_succ]
    refine reg_load1 (i := 5) rfl (by kernel_rfl) (by kernel_rfl) (by kernel_rfl) (fun _ _ _ _ h => h) rfl 4 _ rfl ⟨w.heap.size + 1, 4, none⟩ rfl _ Try.underlying4 rfl (.bool x.em) (fun w' q => (hRd.out w' q).2) hS1.out ?_
    simp only [Act.put, List.getElem_toArray, List.getElem_cons_succ, List.getElem_cons_zero, List.setIfInBounds_toArray, List.set_cons_zero, List.set_cons_succ]
    refine reg_move (i := 6) rfl (by kernel_rfl) (by kernel_rfl) (by kernel_rfl) (fun _ _ _ _ h => h) rfl (.bool x.em) (fun _ => rfl) hS1.out ?_
    simp only [Act.put, List.getElem_toArray, List.getElem_cons_succ, List.getElem_cons_zero, List.setIfInBounds_toArray, List.set_cons_zero, List.set_cons_succ]
    refine reg_one (i := 7) (by kernel_rfl) rfl rfl (wpList_store_row rfl TD6 _ _ rfl (w.heap.size + 1 + 1) #[.int .i64 n, .slice a m lc] rfl rfl _ _ (show X.drew.heap[w.heap.size + 1 + 1]? = some (oDg 0 none 0 0) from hS0.out.r) infoDg rfl (dg_one _ _ _ _) (wpList_nil (And.intro hSe.out fun _ => ?_)))
    simp only [Act.put, List.getElem_toArray, List.getElem_cons_succ, List.getElem_cons_zero, List.setIfInBounds_toArray, List.set_cons_zero, List.set_cons_succ]
    refine reg_move (i := 8) rfl (by kernel_rfl) (by kernel_rfl) (by kernel_rfl) (fun _ _ _ _ h => h) rfl (.bool x.em) (fun _ => rfl) hSe.out ?_
    simp only [Act.put, List.getElem_toArray, List.getElem_cons_succ, List.getElem_cons_zero, List.setIfInBounds_toArray, List.set_cons_zero, List.set_cons_succ]
    refine wpAnyH_done (by kernel_rfl) (NoPanic.normal ?_) _
    go_wp2
    exact bodyPost_ret (results_d2 Try.results36 _ _ (w.heap.size + 1 + 1) #[.int .i64 n, .slice a m lc] (.bool x.em) rfl rfl rfl (setRow_heap _ _ _ _ _ _ (show X.drew.heap[w.heap.size + 1 + 1]? = some (oDg 0 none 0 0) from hS0.out.r))) rfl ⟨rfl, below_setRow (bthen hS0.out.b (bey_drew X)) (by omega) _⟩
  | false =>
    go_upto_region 12 with fail
    have hS1 : Hid (X.drew.heap[w.heap.size]? = some (oDg n a m lc) ∧ X.drew.heap[w.heap.size + 1]? = some (oCl x)) := ⟨hS0.out.t, hS0.out.x⟩
    have hRd : Hid (∀ w' : World, w'.heap[w.heap.size]? = some (oDg n a m lc) ∧ w'.heap[w.heap.size + 1]? = some (oCl x) → w'.rangeAt w.heap.size 0 (dV n a m lc) ∧ w'.cell? ⟨w.heap.size + 1, 4, none⟩ = some (.bool x.em)) := fun w' q => ⟨rng_blk q.1, cell_lc (k := 4) q.2 rfl⟩
    have hSe : Hid ((X.drew.setRow (w.heap.size + 1 + 1) #[.int .i64 n, .slice a m lc]).heap[w.heap.size]? = some (oDg n a m lc) ∧ (X.drew.setRow (w.heap.size + 1 + 1) #[.int .i64 n, .slice a m lc]).heap[w.heap.size + 1]? = some (oCl x)) := ⟨(setRow_other _ _ _ _ (by omega)).trans hS1.out.1, (setRow_other _ _ _ _ (by omega)).trans hS1.out.2⟩
    refine wp_region_noPanic ?_
    refine wp_region_held_drew (S := fun w' => w'.heap[w.heap.size]? = some (oDg n a m lc) ∧ w'.heap[w.heap.size + 1]? = some (oCl x)) (by kernel_rfl) hS1.out (fun _ => ?_)
    refine reg_load (i := 0) rfl (by kernel_rfl) (by kernel_rfl) (by kernel_rfl) (fun _ _ _ _ h => h) rfl 75 _ rfl w.heap.size 0 rfl (dV n a m lc) _ (fun w' q => (hRd.out w' q).1) Try.underlying75 rfl infoDg hS1.out ?_
    simp only [Act.put, List.getElem_toArray, List.getElem_cons_succ, List.getElem_cons_zero, List.setIfInBounds_toArray, List.set_cons_zero, List.set_cons_succ]
    refine reg_move (i := 1) rfl (by kernel_rfl) (by kernel_rfl) (by kernel_rfl) (fun _ _ _ _ h => h) rfl (.bool false) (fun _ => rfl) hS1.out ?_
    simp only [Act.put, List.getElem_toArray, List.getElem_cons_succ, List.getElem_cons_zero, List.setIfInBounds_toArray, List.set_cons_zero, List.set_cons_succ]
    refine reg_move (i := 2) rfl (by kernel_rfl) (by kernel_rfl) (by kernel_rfl) (fun _ _ _ _ h => h) rfl (.bool true) (fun _ => rfl) hS1.out ?_
    simp only [Act.put, List.getElem_toArray, List.getElem_cons_succ, List.getElem_cons_zero, List.setIfInBounds_toArray, List.set_cons_zero, List.set_cons_succ]
    refine reg_move (i := 3) rfl (by kernel_rfl) (by kernel_rfl) (by kernel_rfl) (fun _ _ _ _ h => h) rfl (.bool true) (fun _ => rfl) hS1.out ?_
    simp only [Act.put, List.getElem_toArray, List.getElem_cons_succ, List.getElem_cons_zero, List.setIfInBounds_toArray, List.set_cons_zero, List.set_cons_succ]
    refine reg_skipL (i := 4) rfl (by kernel_rfl) (by kernel_rfl) (by kernel_rfl) (fun _ _ _ _ h => h) rfl hS1.out ?_
    simp only [Act.put, List.getElem_toArray, List.getElem_cons_succ, List.getElem_cons_zero, List.setIfInBounds_toArray, List.set_cons_zero, List.set_cons_succ]
    refine reg_skipL (i := 5) rfl (by kernel_rfl) (by kernel_rfl) (by kernel_rfl) (fun _ _ _ _ h => h) rfl hS1.out ?_
    simp only [Act.put, List.getElem_toArray, List.getElem_cons_succ, List.getElem_cons_zero, List.setIfInBounds_toArray, List.set_cons_zero, List.set_cons_succ]
    refine reg_move (i := 6) rfl (by kernel_rfl) (by kernel_rfl) (by kernel_rfl) (fun _ _ _ _ h => h) rfl (.bool true) (fun _ => rfl) hS1.out ?_
    simp only [Act.put, List.getElem_toArray, List.getElem_cons_succ, List.getElem_cons_zero, List.setIfInBounds_toArray, List.set_cons_zero, List.set_cons_succ]
    refine reg_one (i := 7) (by kernel_rfl) rfl rfl (wpList_store_row rfl TD6 _ _ rfl (w.heap.size + 1 + 1) #[.int .i64 n, .slice a m lc] rfl rfl _ _ (show X.drew.heap[w.heap.size + 1 + 1]? = some (oDg 0 none 0 0) from hS0.out.r) infoDg rfl (dg_one _ _ _ _) (wpList_nil (And.intro hSe.out fun _ => ?_)))
    simp only [Act.put, List.getElem_toArray, List.getElem_cons_succ, List.getElem_cons_zero, List.setIfInBounds_toArray, List.set_cons_zero, List.set_cons_succ]
    refine reg_move (i := 8) rfl (by kernel_rfl) (by kernel_rfl) (by kernel_rfl) (fun _ _ _ _ h => h) rfl (.bool true) (fun _ => rfl) hSe.out ?_
    simp only [Act.put, List.getElem_toArray, List.getElem_cons_succ, List.getElem_cons_zero, List.setIfInBounds_toArray, List.set_cons_zero, List.set_cons_succ]
    refine wpAnyH_done (by kernel_rfl) (NoPanic.normal ?_) _
    go_wp2
    exact bodyPost_ret (results_d2 Try.results36 _ _ (w.heap.size + 1 + 1) #[.int .i64 n, .slice a m lc] (.bool true) rfl rfl rfl (setRow_heap _ _ _ _ _ _ (show X.drew.heap[w.heap.size + 1 + 1]? = some (oDg 0 none 0 0) from hS0.out.r))) rfl ⟨rfl, below_setRow (bthen hS0.out.b (bey_drew X)) (by omega) _⟩
set_option maxHeartbeats 8000000 in
theorem rdo_5q (n : Int) (b off m lc : Nat) (x : Cl) (hd : x.d = 5) (c : List Int) (q : Nat) (hq : c.length = q + 1) (hm' : m = c.length) (hc : c.length ≤ 8) (hr : Rows w 1 (some ⟨b, off, none⟩) lc (c.map chCells)) (p : Bool) (hp : (x.en != -1) = p) (v : Int) (hv : c[0]? = some v) : Calls Try.prog 36 #[.int .i64 3, .agg #[.int .i64 n, .slice (some ⟨b, off, none⟩) m lc], x.val] w fun e w' => ∃ va vc, e = .returned (.tuple #[.agg #[.int .i64 0, .slice va q vc], .bool (!p || (!x.em && x.out == v))]) ∧ Rows w' 1 va vc ((c.take 0 ++ c.drop (0 + 1)).map chCells) ∧ Below w.heap.size w w' ∧ ∀ g ∈ blk va, w.heap.size < g ∧ g < w'.heap.size := by
  obtain ⟨a, ha⟩ : ∃ a : Option Addr, a = some ⟨b, off, none⟩ := ⟨_, rfl⟩
  rw [← ha] at hr ⊢
  have haH : Hid (a = some ⟨b, off, none⟩) := ha
  have hro : Hid (Rows w 1 a lc (c.map chCells)) := hr
  have hm : Hid (m = c.length) := hm'
  have hqH : Hid (c.length = q + 1) := hq
  have hvH : Hid (c[0]? = some v) := hv
  have hcH : Hid (c.length ≤ 8) := hc
  obtain ⟨iN, hiN', hzN', hsN', hbN'⟩ := info_q infoI64
  have hiN : Hid _ := hiN'
  have hzN : Hid _ := hzN'
  have hsN : Hid _ := hsN'
  have hbN : Hid _ := hbN'
  have hlc : Hid (c.length ≤ lc ∧ lc ≤ 9223372036854775807) := by
    have h1 := hr.1
    have h2 := hr.2.1
    rw [List.length_map] at h1
    exact ⟨h1, h2⟩
  clear hr hm' hq hv hc ha hiN' hzN' hsN' hbN'
  have hdH : Hid (x.d = _) := hd
  clear hd
  have hS0 : Hid (DoS w _ n a m lc x) := DoS.start w n a m lc x
  go_enter Try.func36, Try.ntmps36
  go_upto_region 1 with fail
  obtain ⟨X, hX⟩ : ∃ X, ((w.alloc (oDg n a m lc)).alloc (oCl x)).alloc (oDg 0 none 0 0) = X := ⟨_, rfl⟩
  rw [hX] at hS0 ⊢
  obtain ⟨k0, k1, k2, k3, k4, k5, k6⟩ := hS0.out.cells
  rw [hdH.out] at k2
  clear hX
  have hmI : (m : Int) = q + 1 := by have := hm.out; have := hqH.out; omega
  have hqI : (q : Int) ≤ 7 := by have := hqH.out; have := hcH.out; omega
  have hm0 : ((m : Int) == 0) = false := beq_eq_false_iff_ne.mpr (by omega)
  obtain ⟨be, oe, xe, _, ce⟩ := ch64_ix (hro.out.later hS0.out.b) 0 v hvH.out
  rw [← hm.out] at xe
  have xe' : ∀ wx, (Instr.indexAt 36 (.slice a m lc) (.int .i64 (0))).run Try.prog wx = .ok (.pointer (some ⟨be, oe, none⟩)) wx := xe
  clear xe
  have cu : ∀ wx, (Instr.sliceAt 36 (.slice a m lc) none (some (.int .i64 (0))) none).run Try.prog wx = .ok (.slice a 0 lc) wx := cut64 a m lc 0 (by have := hqH.out; have := hlc.out; omega) hlc.out.2
  obtain ⟨o2, ct, rt⟩ := tail64 b off m lc (0 + 1) (by have := hqH.out; have := hm.out; omega) (by have := hm.out; have := hlc.out; omega) hlc.out.2
  rw [← haH.out] at ct
  have ct' : ∀ wx, (Instr.sliceAt 36 (.slice a m lc) (some (.int .i64 (1))) none none).run Try.prog wx = .ok (.slice (some ⟨b, o2, none⟩) (m - (0 + 1)) (lc - (0 + 1))) wx := ct
  have hrt : Hid _ := rt
  clear rt ct
  have k1e : (X.alloc (.cells #[] 2)).cell? ⟨w.heap.size, 1, none⟩ = some (.slice a m lc) := cell_later (boxed _ _) k1
  have hb0 : Hid (Below X.heap.size X (X.alloc (.cells #[] 2))) := boxed _ _
  have hlt2 : Hid (w.heap.size + 1 + 1 < X.heap.size) := (Array.getElem?_eq_some_iff.mp hS0.out.r).1
  go_upto_region 19 with (first
    | (at_builtin; (refine wpList_app rfl (.tmp 75) (.tmp 79) 36 rfl X.heap.size 2 iN _ 1 8 Try.underlying36 hiN.out hzN.out hsN.out hbN.out rfl (by decide) (some ⟨X.heap.size, 0, none⟩) 0 [] rfl (own_empty X X.heap.size 2 1 (Nat.le_refl _)) a lc ((c.take 0).map chCells) (by rw [List.length_map, List.length_take, Nat.min_eq_left (by have := hqH.out; omega)]; rfl) (by rw [List.map_take]; exact rows_take ((hro.out.later hS0.out.b).later (boxed _ _)) _) (fun row hr => by obtain ⟨z, _, rfl⟩ := List.mem_map.mp hr; rfl) (fun row hr u hu => by obtain ⟨z, _, rfl⟩ := List.mem_map.mp hr; simp only [chCells, List.mem_singleton] at hu; subst hu; rfl) (by rw [List.length_map, List.length_take, Nat.min_eq_left (by have := hqH.out; omega)]; have := hqI; simp only [List.length_nil]; unfold maxLen; omega) (by rw [List.length_map, List.length_take, Nat.min_eq_left (by have := hqH.out; omega)]; have := hqI; simp only [List.length_nil]; omega) (by rw [World.size_alloc]; omega) ?_); intro va vc V3 ho3 hk3 hb3 hbl3; (have hn3 : ([] ++ (c.take 0).map chCells).length = 0 := by (rw [List.nil_append, List.length_map, List.length_take, Nat.min_eq_left (by have := hqH.out; omega)])); rw [hn3]; clear hn3; (have hX3 : Hid (Below X.heap.size X V3 ∧ OwnL V3 X.heap.size 2 1 va vc ((c.take 0).map chCells)) := ⟨hb0.out.trans (by rw [Nat.min_eq_left hb0.out.size] at hb3; exact hb3), ho3⟩); (have k13 : V3.cell? ⟨w.heap.size, 1, none⟩ = some (.slice a m lc) := cell_later hX3.out.1 k1); clear ho3 hk3 hb3 hbl3 k1e)
    | (at_builtin; (refine wpList_app rfl (.tmp 81) (.tmp 86) 36 rfl X.heap.size 2 iN _ 1 8 Try.underlying36 hiN.out hzN.out hsN.out hbN.out rfl (by decide) va vc ((c.take 0).map chCells) (by rw [List.length_map, List.length_take, Nat.min_eq_left (by have := hqH.out; omega)]; rfl) hX3.out.2 (some ⟨b, o2, none⟩) (lc - (0 + 1)) ((c.drop (0 + 1)).map chCells) (by rw [List.length_map, List.length_drop, ← hm.out]; rfl) (by rw [List.map_drop]; exact hrt.out V3 (c.map chCells) (by rw [List.length_map, ← hm.out]) (by rw [← haH.out]; exact (hro.out.later hS0.out.b).later hX3.out.1)) (fun row hr => by obtain ⟨z, _, rfl⟩ := List.mem_map.mp hr; rfl) (fun row hr u hu => by obtain ⟨z, _, rfl⟩ := List.mem_map.mp hr; simp only [chCells, List.mem_singleton] at hu; subst hu; rfl) (by rw [List.length_map, List.length_map, List.length_take, List.length_drop]; have := hcH.out; unfold maxLen; omega) (by rw [List.length_map, List.length_map, List.length_take, List.length_drop]; have := hcH.out; omega) hX3.out.1.size ?_); intro va2 vc2 V4 ho4 hk4 hb4 hbl4; (have hn4 : ((c.take 0).map chCells ++ (c.drop (0 + 1)).map chCells).length = q := by (rw [List.length_append, List.length_map, List.length_map, List.length_take, List.length_drop]; have := hqH.out; omega)); rw [hn4]; clear hn4; (have hX4 : Hid (Below X.heap.size X V4 ∧ OwnL V4 X.heap.size 2 1 va2 vc2 ((c.take 0 ++ c.drop (0 + 1)).map chCells)) := ⟨hX3.out.1.trans (by rw [Nat.min_eq_left hX3.out.1.size] at hb4; exact hb4), by rw [List.map_append]; exact ho4⟩); clear ho4 hk4 hb4 hbl4 k13 hX3))
  have hS4 : Hid (DoS w V4 n a m lc x) := hS0.out.later hX4.out.1
  clear k0 k1 k2 k3 k4 k5 k6 cu ct' xe' ce hrt
  cases p with
  | false =>
    have hS1 : Hid (V4.drew.heap[w.heap.size + 1]? = some (oCl x)) := hS4.out.x
    have hRd : Hid (∀ w' : World, w'.heap[w.heap.size + 1]? = some (oCl x) → w'.cell? ⟨w.heap.size + 1, 4, none⟩ = some (.bool x.em) ∧ w'.cell? ⟨w.heap.size + 1, 3, none⟩ = some (.int .i64 x.out)) := fun w' q => ⟨cell_lc (k := 4) q rfl, cell_lc (k := 3) q rfl⟩
    have hr4 : Hid (V4.drew.heap[w.heap.size + 1 + 1]? = some (oDg 0 none 0 0)) := hS4.out.r
    have hSe : Hid ((V4.drew.setRow (w.heap.size + 1 + 1) #[.int .i64 0, .slice va2 q vc2]).heap[w.heap.size + 1]? = some (oCl x)) := (setRow_other _ _ _ _ (by omega)).trans hS1.out
    refine wp_region_noPanic ?_
    refine wp_region_held_drew (S := fun w' => w'.heap[w.heap.size + 1]? = some (oCl x)) (by kernel_rfl) hS1.out (fun _ => ?_)
    refine reg_move (i := 0) rfl (by kernel_rfl) (by kernel_rfl) (by kernel_rfl) (fun _ _ _ _ h => h) rfl (.slice va2 q vc2) (fun _ => rfl) hS1.out ?_
    simp only [Act.put, List.getElem_toArray, List.getElem_cons_succ, List.getElem_cons_zero, List.setIfInBounds_toArray, List.set_cons_zero, List.set_cons_succ]
    refine reg_move (i := 1) rfl (by kernel_rfl) (by kernel_rfl) (by kernel_rfl) (fun _ _ _ _ h => h) rfl (.agg #[.int .i64 0, .slice va2 q vc2]) (fun wx => by unfold execOp; exact run_val2 (by simp only [List.map_toArray, List.map_cons, List.map_nil]; exact bld_D1 va2 q vc2 wx)) hS1.out ?_
    simp only [Act.put, List.getElem_toArray, List.getElem_cons_succ, List.getElem_cons_zero, List.setIfInBounds_toArray, List.set_cons_zero, List.set_cons_succ]
    refine reg_move (i := 2) rfl (by kernel_rfl) (by kernel_rfl) (by kernel_rfl) (fun _ _ _ _ h => h) rfl (.bool false) (fun _ => rfl) hS1.out ?_
    simp only [Act.put, List.getElem_toArray, List.getElem_cons_succ, List.getElem_cons_zero, List.setIfInBounds_toArray, List.set_cons_zero, List.set_cons_succ]
    refine reg_move (i := 3) rfl (by kernel_rfl) (by kernel_rfl) (by kernel_rfl) (fun _ _ _ _ h => h) rfl (.bool true) (fun _ => rfl) hS1.out ?_
    simp only [Act.put, List.getElem_toArray, List.getElem_cons_succ, List.getElem_cons_zero, List.setIfInBounds_toArray, List.set_cons_zero, List.set_cons_succ]
    refine reg_move (i := 4) rfl (by kernel_rfl) (by kernel_rfl) (by kernel_rfl) (fun _ _ _ _ h => h) rfl (.bool true) (fun _ => rfl) hS1.out ?_
    simp only [Act.put, List.getElem_toArray, List.getElem_cons_succ, List.getElem_cons_zero, List.setIfInBounds_toArray, List.set_cons_zero, List.set_cons_succ]
    refine reg_skipL (i := 5) rfl (by kernel_rfl) (by kernel_rfl) (by kernel_rfl) (fun _ _ _ _ h => h) rfl hS1.out ?_
    simp only [Act.put, List.getElem_toArray, List.getElem_cons_succ, List.getElem_cons_zero, List.setIfInBounds_toArray, List.set_cons_zero, List.set_cons_succ]
    refine reg_skipL (i := 6) rfl (by kernel_rfl) (by kernel_rfl) (by kernel_rfl) (fun _ _ _ _ h => h) rfl hS1.out ?_
    simp only [Act.put, List.getElem_toArray, List.getElem_cons_succ, List.getElem_cons_zero, List.setIfInBounds_toArray, List.set_cons_zero, List.set_cons_succ]
    refine reg_skipL (i := 7) rfl (by kernel_rfl) (by kernel_rfl) (by kernel_rfl) (fun _ _ _ _ h => h) rfl hS1.out ?_
    simp only [Act.put, List.getElem_toArray, List.getElem_cons_succ, List.getElem_cons_zero, List.setIfInBounds_toArray, List.set_cons_zero, List.set_cons_succ]
    refine reg_skipL (i := 8) rfl (by kernel_rfl) (by kernel_rfl) (by kernel_rfl) (fun _ _ _ _ h => h) rfl hS1.out ?_
    simp only [Act.put, List.getElem_toArray, List.getElem_cons_succ, List.getElem_cons_zero, List.setIfInBounds_toArray, List.set_cons_zero, List.set_cons_succ]
    refine reg_skipL (i := 9) rfl (by kernel_rfl) (by kernel_rfl) (by kernel_rfl) (fun _ _ _ _ h => h) rfl hS1.out ?_
    simp only [Act.put, List.getElem_toArray, List.getElem_cons_succ, List.getElem_cons_zero, List.setIfInBounds_toArray, List.set_cons_zero, List.set_cons_succ]
    refine reg_skipL (i := 10) rfl (by kernel_rfl) (by kernel_rfl) (by kernel_rfl) (fun _ _ _ _ h => h) rfl hS1.out ?_
    simp only [Act.put, List.getElem_toArray, List.getElem_cons_succ, List.getElem_cons_zero, List.setIfInBounds_toArray, List.set_cons_zero, List.set_cons_succ]
    refine reg_skipL (i := 11) rfl (by kernel_rfl) (by kernel_rfl) (by kernel_rfl) (fun _ _ _ _ h => h) rfl hS1.out ?_
    simp only [Act.put, List.getElem_toArray, List.getElem_cons_succ, List.getElem_cons_zero, List.setIfInBounds_toArray, List.set_cons_zero, List.set_cons_succ]
    refine reg_skipL (i := 12) rfl (by kernel_rfl) (by kernel_rfl) (by kernel_rfl) (fun _ _ _ _ h => h) rfl hS1.out ?_
    simp only [Act.put, List.getElem_toArray, List.getElem_cons_succ, List.getElem_cons_zero, List.setIfInBounds_toArray, List.set_cons_zero, List.set_cons_succ]
    refine reg_skipL (i := 13) rfl (by kernel_rfl) (by kernel_rfl) (by kernel_rfl) (fun _ _ _ _ h => h) rfl hS1.out ?_
    simp only [Act.put, List.getElem_toArray, List.getElem_cons_succ, List.getElem_cons_zero, List.setIfInBounds_toArray, List.set_cons_zero, List.set_cons_succ]
    refine reg_move (i := 14) rfl (by kernel_rfl) (by kernel_rfl) (by kernel_rfl) (fun _ _ _ _ h => h) rfl (.bool true) (fun _ => rfl) hS1.out ?_
    simp only [Act.put, List.getElem_toArray, List.getElem_cons_succ, List.getElem_cons_zero, List.setIfInBounds_toArray, List.set_cons_zero, List.set_cons_succ]
    refine reg_one (i := 15) (by kernel_rfl) rfl rfl (wpList_store_row rfl TD6 _ _ rfl (w.heap.size + 1 + 1) #[.int .i64 0, .slice va2 q vc2] rfl rfl _ _ hr4.out infoDg rfl (dg_one _ _ _ _) (wpList_nil (And.intro hSe.out fun _ => ?_)))
    simp only [Act.put, List.getElem_toArray, List.getElem_cons_succ, List.getElem_cons_zero, List.setIfInBounds_toArray, List.set_cons_zero, List.set_cons_succ]
    refine reg_move (i := 16) rfl (by kernel_rfl) (by kernel_rfl) (by kernel_rfl) (fun _ _ _ _ h => h) rfl (.bool true) (fun _ => rfl) hSe.out ?_
    simp only [Act.put, List.getElem_toArray, List.getElem_cons_succ, List.getElem_cons_zero, List.setIfInBounds_toArray, List.set_cons_zero, List.set_cons_succ]
    refine wpAnyH_done (by kernel_rfl) (NoPanic.normal ?_) _
    go_wp2
    refine bodyPost_ret (results_d2 Try.results36 _ _ (w.heap.size + 1 + 1) #[.int .i64 0, .slice va2 q vc2] (.bool true) rfl rfl rfl (setRow_heap _ _ _ _ _ _ hr4.out)) rfl ⟨va2, vc2, by first | rfl | simp, ?_, below_setRow (bthen hS4.out.b (bey_drew V4)) (by omega) _, fun g hg => ⟨by have := (blk_lt hX4.out.2 g hg).1; have := hlt2.out; omega, by rw [setRow_size]; exact (blk_lt hX4.out.2 g hg).2⟩⟩
    exact rows_keepL (own_rows hX4.out.2 (fun row hr => by obtain ⟨z, _, rfl⟩ := List.mem_map.mp hr; rfl)) fun g hg => setRow_other _ _ _ _ (by have := (blk_lt hX4.out.2 g hg).1; have := hlt2.out; omega)
  | true =>
    cases hem : x.em with
    | false =>
      have hS1 : Hid (V4.drew.heap[w.heap.size + 1]? = some (oCl x)) := hS4.out.x
      have hRd : Hid (∀ w' : World, w'.heap[w.heap.size + 1]? = some (oCl x) → w'.cell? ⟨w.heap.size + 1, 4, none⟩ = some (.bool x.em) ∧ w'.cell? ⟨w.heap.size + 1, 3, none⟩ = some (.int .i64 x.out)) := fun w' q => ⟨cell_lc (k := 4) q rfl, cell_lc (k := 3) q rfl⟩
      have hr4 : Hid (V4.drew.heap[w.heap.size + 1 + 1]? = some (oDg 0 none 0 0)) := hS4.out.r
      have hSe : Hid ((V4.drew.setRow (w.heap.size + 1 + 1) #[.int .i64 0, .slice va2 q vc2]).heap[w.heap.size + 1]? = some (oCl x)) := (setRow_other _ _ _ _ (by omega)).trans hS1.out
      refine wp_region_noPanic ?_
      refine wp_region_held_drew (S := fun w' => w'.heap[w.heap.size + 1]? = some (oCl x)) (by kernel_rfl) hS1.out (fun _ => ?_)
      refine reg_move (i := 0) rfl (by kernel_rfl) (by kernel_rfl) (by kernel_rfl) (fun _ _ _ _ h => h) rfl (.slice va2 q vc2) (fun _ => rfl) hS1.out ?_
      simp only [Act.put, List.getElem_toArray, List.getElem_cons_succ, List.getElem_cons_zero, List.setIfInBounds_toArray, List.set_cons_zero, List.set_cons_succ]
      refine reg_move (i := 1) rfl (by kernel_rfl) (by kernel_rfl) (by kernel_rfl) (fun _ _ _ _ h => h) rfl (.agg #[.int .i64 0, .slice va2 q vc2]) (fun wx => by unfold execOp; exact run_val2 (by simp only [List.map_toArray, List.map_cons, List.map_nil]; exact bld_D1 va2 q vc2 wx)) hS1.out ?_
      simp only [Act.put, List.getElem_toArray, List.getElem_cons_succ, List.getElem_cons_zero, List.setIfInBounds_toArray, List.set_cons_zero, List.set_cons_succ]
      refine reg_move (i := 2) rfl (by kernel_rfl) (by kernel_rfl) (by kernel_rfl) (fun _ _ _ _ h => h) rfl (.bool true) (fun _ => rfl) hS1.out ?_
      simp only [Act.put, List.getElem_toArray, List.getElem_cons_succ, List.getElem_cons_zero, List.setIfInBounds_toArray, List.set_cons_zero, List.set_cons_succ]
      refine reg_move (i := 3) rfl (by kernel_rfl) (by kernel_rfl) (by kernel_rfl) (fun _ _ _ _ h => h) rfl (.bool false) (fun _ => rfl) hS1.out ?_
      simp only [Act.put, List.getElem_toArray, List.getElem_cons_succ, List.getElem_cons_zero, List.setIfInBounds_toArray, List.set_cons_zero, List.set_cons_succ]
      refine reg_move (i := 4) rfl (by kernel_rfl) (by kernel_rfl) (by kernel_rfl) (fun _ _ _ _ h => h) rfl (.bool false) (fun _ => rfl) hS1.out ?_
      simp only [Act.put, List.getElem_toArray, List.getElem_cons_succ, List.getElem_cons_zero, List.setIfInBounds_toArray, List.set_cons_zero, List.set_cons_succ]
      refine reg_move (i := 5) rfl (by kernel_rfl) (by kernel_rfl) (by kernel_rfl) (fun _ _ _ _ h => h) rfl (.pointer (some ⟨w.heap.size + 1, 4, none⟩)) (fun _ => rfl) hS1.out ?_
      simp only [Act.put, List.getElem_toArray, List.getElem_cons_succ, List.getElem_cons_zero, List.setIfInBounds_toArray, List.set_cons_zero, List.set_cons_succ]
      refine reg_load1 (i := 6) rfl (by kernel_rfl) (by kernel_rfl) (by kernel_rfl) (fun _ _ _ _ h => h) rfl 4 _ rfl ⟨w.heap.size + 1, 4, none⟩ rfl _ Try.underlying4 rfl (.bool x.em) (fun w' q => (hRd.out w' q).1) hS1.out ?_
      simp only [Act.put, List.getElem_toArray, List.getElem_cons_succ, List.getElem_cons_zero, List.setIfInBounds_toArray, List.set_cons_zero, List.set_cons_succ]
      rw [hem]
      refine reg_move (i := 7) rfl (by kernel_rfl) (by kernel_rfl) (by kernel_rfl) (fun _ _ _ _ h => h) rfl (.bool true) (fun _ => rfl) hS1.out ?_
      simp only [Act.put, List.getElem_toArray, List.getElem_cons_succ, List.getElem_cons_zero, List.setIfInBounds_toArray, List.set_cons_zero, List.set_cons_succ]
      refine reg_move (i := 8) rfl (by kernel_rfl) (by kernel_rfl) (by kernel_rfl) (fun _ _ _ _ h => h) rfl (.bool true) (fun _ => rfl) hS1.out ?_
      simp only [Act.put, List.getElem_toArray, List.getElem_cons_succ, List.getElem_cons_zero, List.setIfInBounds_toArray, List.set_cons_zero, List.set_cons_succ]
      refine reg_move (i := 9) rfl (by kernel_rfl) (by kernel_rfl) (by kernel_rfl) (fun _ _ _ _ h => h) rfl (.pointer (some ⟨w.heap.size + 1, 3, none⟩)) (fun _ => rfl) hS1.out ?_
      simp only [Act.put, List.getElem_toArray, List.getElem_cons_succ, List.getElem_cons_zero, List.setIfInBounds_toArray, List.set_cons_zero, List.set_cons_succ]
      refine reg_load1 (i := 10) rfl (by kernel_rfl) (by kernel_rfl) (by kernel_rfl) (fun _ _ _ _ h => h) rfl 2 _ rfl ⟨w.heap.size + 1, 3, none⟩ rfl _ Try.underlying2 rfl (.int .i64 x.out) (fun w' q => (hRd.out w' q).2) hS1.out ?_
      simp only [Act.put, List.getElem_toArray, List.getElem_cons_succ, List.getElem_cons_zero, List.setIfInBounds_toArray, List.set_cons_zero, List.set_cons_succ]
      refine reg_move (i := 11) rfl (by kernel_rfl) (by kernel_rfl) (by kernel_rfl) (fun _ _ _ _ h => h) rfl (.int .i64 v) (fun _ => rfl) hS1.out ?_
      simp only [Act.put, List.getElem_toArray, List.getElem_cons_succ, List.getElem_cons_zero, List.setIfInBounds_toArray, List.set_cons_zero, List.set_cons_succ]
      refine reg_move (i := 12) rfl (by kernel_rfl) (by kernel_rfl) (by kernel_rfl) (fun _ _ _ _ h => h) rfl (.bool (x.out == v)) (fun _ => rfl) hS1.out ?_
      simp only [Act.put, List.getElem_toArray, List.getElem_cons_succ, List.getElem_cons_zero, List.setIfInBounds_toArray, List.set_cons_zero, List.set_cons_succ]
      refine reg_move (i := 13) rfl (by kernel_rfl) (by kernel_rfl) (by kernel_rfl) (fun _ _ _ _ h => h) rfl (.bool (x.out == v)) (fun _ => rfl) hS1.out ?_
      simp only [Act.put, List.getElem_toArray, List.getElem_cons_succ, List.getElem_cons_zero, List.setIfInBounds_toArray, List.set_cons_zero, List.set_cons_succ]
      refine reg_move (i := 14) rfl (by kernel_rfl) (by kernel_rfl) (by kernel_rfl) (fun _ _ _ _ h => h) rfl (.bool (x.out == v)) (fun _ => rfl) hS1.out ?_
      simp only [Act.put, List.getElem_toArray, List.getElem_cons_succ, List.getElem_cons_zero, List.setIfInBounds_toArray, List.set_cons_zero, List.set_cons_succ]
      refine reg_one (i := 15) (by kernel_rfl) rfl rfl (wpList_store_row rfl TD6 _ _ rfl (w.heap.size + 1 + 1) #[.int .i64 0, .slice va2 q vc2] rfl rfl _ _ hr4.out infoDg rfl (dg_one _ _ _ _) (wpList_nil (And.intro hSe.out fun _ => ?_)))
      simp only [Act.put, List.getElem_toArray, List.getElem_cons_succ, List.getElem_cons_zero, List.setIfInBounds_toArray, List.set_cons_zero, List.set_cons_succ]
      refine reg_move (i := 16) rfl (by kernel_rfl) (by kernel_rfl) (by kernel_rfl) (fun _ _ _ _ h => h) rfl (.bool (x.out == v)) (fun _ => rfl) hSe.out ?_
      simp only [Act.put, List.getElem_toArray, List.getElem_cons_succ, List.getElem_cons_zero, List.setIfInBounds_toArray, List.set_cons_zero, List.set_cons_succ]
      refine wpAnyH_done (by kernel_rfl) (NoPanic.normal ?_) _
      go_wp2
      refine bodyPost_ret (results_d2 Try.results36 _ _ (w.heap.size + 1 + 1) #[.int .i64 0, .slice va2 q vc2] (.bool (x.out == v)) rfl rfl rfl (setRow_heap _ _ _ _ _ _ hr4.out)) rfl ⟨va2, vc2, by simp [hem], ?_, below_setRow (bthen hS4.out.b (bey_drew V4)) (by omega) _, fun g hg => ⟨by have := (blk_lt hX4.out.2 g hg).1; have := hlt2.out; omega, by rw [setRow_size]; exact (blk_lt hX4.out.2 g hg).2⟩⟩
      exact rows_keepL (own_rows hX4.out.2 (fun row hr => by obtain ⟨z, _, rfl⟩ := List.mem_map.mp hr; rfl)) fun g hg => setRow_other _ _ _ _ (by have := (blk_lt hX4.out.2 g hg).1; have := hlt2.out; omega)
    | true =>
      have hS1 : Hid (V4.drew.heap[w.heap.size + 1]? = some (oCl x)) := hS4.out.x
      have hRd : Hid (∀ w' : World, w'.heap[w.heap.size + 1]? = some (oCl x) → w'.cell? ⟨w.heap.size + 1, 4, none⟩ = some (.bool x.em) ∧ w'.cell? ⟨w.heap.size + 1, 3, none⟩ = some (.int .i64 x.out)) := fun w' q => ⟨cell_lc (k := 4) q rfl, cell_lc (k := 3) q rfl⟩
      have hr4 : Hid (V4.drew.heap[w.heap.size + 1 + 1]? = some (oDg 0 none 0 0)) := hS4.out.r
      have hSe : Hid ((V4.drew.setRow (w.heap.size + 1 + 1) #[.int .i64 0, .slice va2 q vc2]).heap[w.heap.size + 1]? = some (oCl x)) := (setRow_other _ _ _ _ (by omega)).trans hS1.out
      refine wp_region_noPanic ?_
      refine wp_region_held_drew (S := fun w' => w'.heap[w.heap.size + 1]? = some (oCl x)) (by kernel_rfl) hS1.out (fun _ => ?_)
      refine reg_move (i := 0) rfl (by kernel_rfl) (by kernel_rfl) (by kernel_rfl) (fun _ _ _ _ h => h) rfl (.slice va2 q vc2) (fun _ => rfl) hS1.out ?_
      simp only [Act.put, List.getElem_toArray, List.getElem_cons_succ, List.getElem_cons_zero, List.setIfInBounds_toArray, List.set_cons_zero, List.set_cons_succ]
      refine reg_move (i := 1) rfl (by kernel_rfl) (by kernel_rfl) (by kernel_rfl) (fun _ _ _ _ h => h) rfl (.agg #[.int .i64 0, .slice va2 q vc2]) (fun wx => by unfold execOp; exact run_val2 (by simp only [List.map_toArray, List.map_cons, List.map_nil]; exact bld_D1 va2 q vc2 wx)) hS1.out ?_
      simp only [Act.put, List.getElem_toArray, List.getElem_cons_succ, List.getElem_cons_zero, List.setIfInBounds_toArray, List.set_cons_zero, List.set_cons_succ]
      refine reg_move (i := 2) rfl (by kernel_rfl) (by kernel_rfl) (by kernel_rfl) (fun _ _ _ _ h => h) rfl (.bool true) (fun _ => rfl) hS1.out ?_
      simp only [Act.put, List.getElem_toArray, List.getElem_cons_succ, List.getElem_cons_zero, List.setIfInBounds_toArray, List.set_cons_zero, List.set_cons_succ]
      refine reg_move (i := 3) rfl (by kernel_rfl) (by kernel_rfl) (by kernel_rfl) (fun _ _ _ _ h => h) rfl (.bool false) (fun _ => rfl) hS1.out ?_
      simp only [Act.put, List.getElem_toArray, List.getElem_cons_succ, List.getElem_cons_zero, List.setIfInBounds_toArray, List.set_cons_zero, List.set_cons_succ]
      refine reg_move (i := 4) rfl (by kernel_rfl) (by kernel_rfl) (by kernel_rfl) (fun _ _ _ _ h => h) rfl (.bool false) (fun _ => rfl) hS1.out ?_
      simp only [Act.put, List.getElem_toArray, List.getElem_cons_succ, List.getElem_cons_zero, List.setIfInBounds_toArray, List.set_cons_zero, List.set_cons_succ]
      refine reg_move (i := 5) rfl (by kernel_rfl) (by kernel_rfl) (by kernel_rfl) (fun _ _ _ _ h => h) rfl (.pointer (some ⟨w.heap.size + 1, 4, none⟩)) (fun _ => rfl) hS1.out ?_
      simp only [Act.put, List.getElem_toArray, List.getElem_cons_succ, List.getElem_cons_zero, List.setIfInBounds_toArray, List.set_cons_zero, List.set_cons_succ]
      refine reg_load1 (i := 6) rfl (by kernel_rfl) (by kernel_rfl) (by kernel_rfl) (fun _ _ _ _ h => h) rfl 4 _ rfl ⟨w.heap.size + 1, 4, none⟩ rfl _ Try.underlying4 rfl (.bool x.em) (fun w' q => (hRd.out w' q).1) hS1.out ?_
      simp only [Act.put, List.getElem_toArray, List.getElem_cons_succ, List.getElem_cons_zero, List.setIfInBounds_toArray, List.set_cons_zero, List.set_cons_succ]
      rw [hem]
      refine reg_move (i := 7) rfl (by kernel_rfl) (by kernel_rfl) (by kernel_rfl) (fun _ _ _ _ h => h) rfl (.bool false) (fun _ => rfl) hS1.out ?_
      simp only [Act.put, List.getElem_toArray, List.getElem_cons_succ, List.getElem_cons_zero, List.setIfInBounds_toArray, List.set_cons_zero, List.set_cons_succ]
      refine reg_move (i := 8) rfl (by kernel_rfl) (by kernel_rfl) (by kernel_rfl) (fun _ _ _ _ h => h) rfl (.bool false) (fun _ => rfl) hS1.out ?_
      simp only [Act.put, List.getElem_toArray, List.getElem_cons_succ, List.getElem_cons_zero, List.setIfInBounds_toArray, List.set_cons_zero, List.set_cons_succ]
      refine reg_skipL (i := 9) rfl (by kernel_rfl) (by kernel_rfl) (by kernel_rfl) (fun _ _ _ _ h => h) rfl hS1.out ?_
      simp only [Act.put, List.getElem_toArray, List.getElem_cons_succ, List.getElem_cons_zero, List.setIfInBounds_toArray, List.set_cons_zero, List.set_cons_succ]
      refine reg_skipL (i := 10) rfl (by kernel_rfl) (by kernel_rfl) (by kernel_rfl) (fun _ _ _ _ h => h) rfl hS1.out ?_
      simp only [Act.put, List.getElem_toArray, List.getElem_cons_succ, List.getElem_cons_zero, List.setIfInBounds_toArray, List.set_cons_zero, List.set_cons_succ]
      refine reg_skipL (i := 11) rfl (by kernel_rfl) (by kernel_rfl) (by kernel_rfl) (fun _ _ _ _ h => h) rfl hS1.out ?_
      simp only [Act.put, List.getElem_toArray, List.getElem_cons_succ, List.getElem_cons_zero, List.setIfInBounds_toArray, List.set_cons_zero, List.set_cons_succ]
      refine reg_skipL (i := 12) rfl (by kernel_rfl) (by kernel_rfl) (by kernel_rfl) (fun _ _ _ _ h => h) rfl hS1.out ?_
      simp only [Act.put, List.getElem_toArray, List.getElem_cons_succ, List.getElem_cons_zero, List.setIfInBounds_toArray, List.set_cons_zero, List.set_cons_succ]
      refine reg_move (i := 13) rfl (by kernel_rfl) (by kernel_rfl) (by kernel_rfl) (fun _ _ _ _ h => h) rfl (.bool false) (fun _ => rfl) hS1.out ?_
      simp only [Act.put, List.getElem_toArray, List.getElem_cons_succ, List.getElem_cons_zero, List.setIfInBounds_toArray, List.set_cons_zero, List.set_cons_succ]
      refine reg_move (i := 14) rfl (by kernel_rfl) (by kernel_rfl) (by kernel_rfl) (fun _ _ _ _ h => h) rfl (.bool false) (fun _ => rfl) hS1.out ?_
      simp only [Act.put, List.getElem_toArray, List.getElem_cons_succ, List.getElem_cons_zero, List.setIfInBounds_toArray, List.set_cons_zero, List.set_cons_succ]
      refine reg_one (i := 15) (by kernel_rfl) rfl rfl (wpList_store_row rfl TD6 _ _ rfl (w.heap.size + 1 + 1) #[.int .i64 0, .slice va2 q vc2] rfl rfl _ _ hr4.out infoDg rfl (dg_one _ _ _ _) (wpList_nil (And.intro hSe.out fun _ => ?_)))
      simp only [Act.put, List.getElem_toArray, List.getElem_cons_succ, List.getElem_cons_zero, List.setIfInBounds_toArray, List.set_cons_zero, List.set_cons_succ]
      refine reg_move (i := 16) rfl (by kernel_rfl) (by kernel_rfl) (by kernel_rfl) (fun _ _ _ _ h => h) rfl (.bool false) (fun _ => rfl) hSe.out ?_
      simp only [Act.put, List.getElem_toArray, List.getElem_cons_succ, List.getElem_cons_zero, List.setIfInBounds_toArray, List.set_cons_zero, List.set_cons_succ]
      refine wpAnyH_done (by kernel_rfl) (NoPanic.normal ?_) _
      go_wp2
      refine bodyPost_ret (results_d2 Try.results36 _ _ (w.heap.size + 1 + 1) #[.int .i64 0, .slice va2 q vc2] (.bool false) rfl rfl rfl (setRow_heap _ _ _ _ _ _ hr4.out)) rfl ⟨va2, vc2, by simp [hem], ?_, below_setRow (bthen hS4.out.b (bey_drew V4)) (by omega) _, fun g hg => ⟨by have := (blk_lt hX4.out.2 g hg).1; have := hlt2.out; omega, by rw [setRow_size]; exact (blk_lt hX4.out.2 g hg).2⟩⟩
      exact rows_keepL (own_rows hX4.out.2 (fun row hr => by obtain ⟨z, _, rfl⟩ := List.mem_map.mp hr; rfl)) fun g hg => setRow_other _ _ _ _ (by have := (blk_lt hX4.out.2 g hg).1; have := hlt2.out; omega)
set_option maxHeartbeats 8000000 in
theorem rdo_5s (n : Int) (b off m lc : Nat) (x : Cl) (hd : x.d = 5) (c : List Int) (q : Nat) (hq : c.length = q + 1) (hm' : m = c.length) (hc : c.length ≤ 8) (hr : Rows w 1 (some ⟨b, off, none⟩) lc (c.map chCells)) (p : Bool) (hp : (x.en != -1) = p) (v : Int) (hv : c[q]? = some v) : Calls Try.prog 36 #[.int .i64 4, .agg #[.int .i64 n, .slice (some ⟨b, off, none⟩) m lc], x.val] w fun e w' => ∃ va vc, e = .returned (.tuple #[.agg #[.int .i64 0, .slice va q vc], .bool (!p || (!x.em && x.out == v))]) ∧ Rows w' 1 va vc ((c.take q ++ c.drop (q + 1)).map chCells) ∧ Below w.heap.size w w' ∧ ∀ g ∈ blk va, w.heap.size < g ∧ g < w'.heap.size := by
  obtain ⟨a, ha⟩ : ∃ a : Option Addr, a = some ⟨b, off, none⟩ := ⟨_, rfl⟩
  rw [← ha] at hr ⊢
  have haH : Hid (a = some ⟨b, off, none⟩) := ha
  have hro : Hid (Rows w 1 a lc (c.map chCells)) := hr
  have hm : Hid (m = c.length) := hm'
  have hqH : Hid (c.length = q + 1) := hq
  have hvH : Hid (c[q]? = some v) := hv
  have hcH : Hid (c.length ≤ 8) := hc
  obtain ⟨iN, hiN', hzN', hsN', hbN'⟩ := info_q infoI64
  have hiN : Hid _ := hiN'
  have hzN : Hid _ := hzN'
  have hsN : Hid _ := hsN'
  have hbN : Hid _ := hbN'
  have hlc : Hid (c.length ≤ lc ∧ lc ≤ 9223372036854775807) := by
    have h1 := hr.1
    have h2 := hr.2.1
    rw [List.length_map] at h1
    exact ⟨h1, h2⟩
  clear hr hm' hq hv hc ha hiN' hzN' hsN' hbN'
  have hdH : Hid (x.d = _) := hd
  clear hd
  have hS0 : Hid (DoS w _ n a m lc x) := DoS.start w n a m lc x
  go_enter Try.func36, Try.ntmps36
  go_upto_region 1 with fail
  obtain ⟨X, hX⟩ : ∃ X, ((w.alloc (oDg n a m lc)).alloc (oCl x)).alloc (oDg 0 none 0 0) = X := ⟨_, rfl⟩
  rw [hX] at hS0 ⊢
  obtain ⟨k0, k1, k2, k3, k4, k5, k6⟩ := hS0.out.cells
  rw [hdH.out] at k2
  clear hX
  have hmI : (m : Int) = q + 1 := by have := hm.out; have := hqH.out; omega
  have hqI : (q : Int) ≤ 7 := by have := hqH.out; have := hcH.out; omega
  have hm0 : ((m : Int) == 0) = false := beq_eq_false_iff_ne.mpr (by omega)
  obtain ⟨be, oe, xe, _, ce⟩ := ch64_ix (hro.out.later hS0.out.b) q v hvH.out
  rw [← hm.out] at xe
  have xe' : ∀ wx, (Instr.indexAt 36 (.slice a m lc) (.int .i64 ((q : Int)))).run Try.prog wx = .ok (.pointer (some ⟨be, oe, none⟩)) wx := xe
  clear xe
  have cu : ∀ wx, (Instr.sliceAt 36 (.slice a m lc) none (some (.int .i64 ((q : Int)))) none).run Try.prog wx = .ok (.slice a q lc) wx := cut64 a m lc q (by have := hqH.out; have := hlc.out; omega) hlc.out.2
  obtain ⟨o2, ct, rt⟩ := tail64 b off m lc (q + 1) (by have := hqH.out; have := hm.out; omega) (by have := hm.out; have := hlc.out; omega) hlc.out.2
  rw [← haH.out] at ct
  have ct' : ∀ wx, (Instr.sliceAt 36 (.slice a m lc) (some (.int .i64 ((q : Int) + 1))) none none).run Try.prog wx = .ok (.slice (some ⟨b, o2, none⟩) (m - (q + 1)) (lc - (q + 1))) wx := ct
  have hrt : Hid _ := rt
  clear rt ct
  have k1e : (X.alloc (.cells #[] 2)).cell? ⟨w.heap.size, 1, none⟩ = some (.slice a m lc) := cell_later (boxed _ _) k1
  have hb0 : Hid (Below X.heap.size X (X.alloc (.cells #[] 2))) := boxed _ _
  have hlt2 : Hid (w.heap.size + 1 + 1 < X.heap.size) := (Array.getElem?_eq_some_iff.mp hS0.out.r).1
  go_upto_region 19 with (first
    | (at_builtin; (refine wpList_app rfl (.tmp 75) (.tmp 79) 36 rfl X.heap.size 2 iN _ 1 8 Try.underlying36 hiN.out hzN.out hsN.out hbN.out rfl (by decide) (some ⟨X.heap.size, 0, none⟩) 0 [] rfl (own_empty X X.heap.size 2 1 (Nat.le_refl _)) a lc ((c.take q).map chCells) (by rw [List.length_map, List.length_take, Nat.min_eq_left (by have := hqH.out; omega)]; rfl) (by rw [List.map_take]; exact rows_take ((hro.out.later hS0.out.b).later (boxed _ _)) _) (fun row hr => by obtain ⟨z, _, rfl⟩ := List.mem_map.mp hr; rfl) (fun row hr u hu => by obtain ⟨z, _, rfl⟩ := List.mem_map.mp hr; simp only [chCells, List.mem_singleton] at hu; subst hu; rfl) (by rw [List.length_map, List.length_take, Nat.min_eq_left (by have := hqH.out; omega)]; have := hqI; simp only [List.length_nil]; unfold maxLen; omega) (by rw [List.length_map, List.length_take, Nat.min_eq_left (by have := hqH.out; omega)]; have := hqI; simp only [List.length_nil]; omega) (by rw [World.size_alloc]; omega) ?_); intro va vc V3 ho3 hk3 hb3 hbl3; (have hn3 : ([] ++ (c.take q).map chCells).length = q := by (rw [List.nil_append, List.length_map, List.length_take, Nat.min_eq_left (by have := hqH.out; omega)])); rw [hn3]; clear hn3; (have hX3 : Hid (Below X.heap.size X V3 ∧ OwnL V3 X.heap.size 2 1 va vc ((c.take q).map chCells)) := ⟨hb0.out.trans (by rw [Nat.min_eq_left hb0.out.size] at hb3; exact hb3), ho3⟩); (have k13 : V3.cell? ⟨w.heap.size, 1, none⟩ = some (.slice a m lc) := cell_later hX3.out.1 k1); clear ho3 hk3 hb3 hbl3 k1e)
    | (at_builtin; (refine wpList_app rfl (.tmp 81) (.tmp 86) 36 rfl X.heap.size 2 iN _ 1 8 Try.underlying36 hiN.out hzN.out hsN.out hbN.out rfl (by decide) va vc ((c.take q).map chCells) (by rw [List.length_map, List.length_take, Nat.min_eq_left (by have := hqH.out; omega)]; rfl) hX3.out.2 (some ⟨b, o2, none⟩) (lc - (q + 1)) ((c.drop (q + 1)).map chCells) (by rw [List.length_map, List.length_drop, ← hm.out]; rfl) (by rw [List.map_drop]; exact hrt.out V3 (c.map chCells) (by rw [List.length_map, ← hm.out]) (by rw [← haH.out]; exact (hro.out.later hS0.out.b).later hX3.out.1)) (fun row hr => by obtain ⟨z, _, rfl⟩ := List.mem_map.mp hr; rfl) (fun row hr u hu => by obtain ⟨z, _, rfl⟩ := List.mem_map.mp hr; simp only [chCells, List.mem_singleton] at hu; subst hu; rfl) (by rw [List.length_map, List.length_map, List.length_take, List.length_drop]; have := hcH.out; unfold maxLen; omega) (by rw [List.length_map, List.length_map, List.length_take, List.length_drop]; have := hcH.out; omega) hX3.out.1.size ?_); intro va2 vc2 V4 ho4 hk4 hb4 hbl4; (have hn4 : ((c.take q).map chCells ++ (c.drop (q + 1)).map chCells).length = q := by (rw [List.length_append, List.length_map, List.length_map, List.length_take, List.length_drop]; have := hqH.out; omega)); rw [hn4]; clear hn4; (have hX4 : Hid (Below X.heap.size X V4 ∧ OwnL V4 X.heap.size 2 1 va2 vc2 ((c.take q ++ c.drop (q + 1)).map chCells)) := ⟨hX3.out.1.trans (by rw [Nat.min_eq_left hX3.out.1.size] at hb4; exact hb4), by rw [List.map_append]; exact ho4⟩); clear ho4 hk4 hb4 hbl4 k13 hX3))
  have hS4 : Hid (DoS w V4 n a m lc x) := hS0.out.later hX4.out.1
  clear k0 k1 k2 k3 k4 k5 k6 cu ct' xe' ce hrt
  cases p with
  | false =>
    have hS1 : Hid (V4.drew.heap[w.heap.size + 1]? = some (oCl x)) := hS4.out.x
    have hRd : Hid (∀ w' : World, w'.heap[w.heap.size + 1]? = some (oCl x) → w'.cell? ⟨w.heap.size + 1, 4, none⟩ = some (.bool x.em) ∧ w'.cell? ⟨w.heap.size + 1, 3, none⟩ = some (.int .i64 x.out)) := fun w' q => ⟨cell_lc (k := 4) q rfl, cell_lc (k := 3) q rfl⟩
    have hr4 : Hid (V4.drew.heap[w.heap.size + 1 + 1]? = some (oDg 0 none 0 0)) := hS4.out.r
    have hSe : Hid ((V4.drew.setRow (w.heap.size + 1 + 1) #[.int .i64 0, .slice va2 q vc2]).heap[w.heap.size + 1]? = some (oCl x)) := (setRow_other _ _ _ _ (by omega)).trans hS1.out
    refine wp_region_noPanic ?_
    refine wp_region_held_drew (S := fun w' => w'.heap[w.heap.size + 1]? = some (oCl x)) (by kernel_rfl) hS1.out (fun _ => ?_)
    refine reg_move (i := 0) rfl (by kernel_rfl) (by kernel_rfl) (by kernel_rfl) (fun _ _ _ _ h => h) rfl (.slice va2 q vc2) (fun _ => rfl) hS1.out ?_
    simp only [Act.put, List.getElem_toArray, List.getElem_cons_succ, List.getElem_cons_zero, List.setIfInBounds_toArray, List.set_cons_zero, List.set_cons_succ]
    refine reg_move (i := 1) rfl (by kernel_rfl) (by kernel_rfl) (by kernel_rfl) (fun _ _ _ _ h => h) rfl (.agg #[.int .i64 0, .slice va2 q vc2]) (fun wx => by unfold execOp; exact run_val2 (by simp only [List.map_toArray, List.map_cons, List.map_nil]; exact bld_D1 va2 q vc2 wx)) hS1.out ?_
    simp only [Act.put, List.getElem_toArray, List.getElem_cons_succ, List.getElem_cons_zero, List.setIfInBounds_toArray, List.set_cons_zero, List.set_cons_succ]
    refine reg_move (i := 2) rfl (by kernel_rfl) (by kernel_rfl) (by kernel_rfl) (fun _ _ _ _ h => h) rfl (.bool false) (fun _ => rfl) hS1.out ?_
    simp only [Act.put, List.getElem_toArray, List.getElem_cons_succ, List.getElem_cons_zero, List.setIfInBounds_toArray, List.set_cons_zero, List.set_cons_succ]
    refine reg_move (i := 3) rfl (by kernel_rfl) (by kernel_rfl) (by kernel_rfl) (fun _ _ _ _ h => h) rfl (.bool true) (fun _ => rfl) hS1.out ?_
    simp only [Act.put, List.getElem_toArray, List.getElem_cons_succ, List.getElem_cons_zero, List.setIfInBounds_toArray, List.set_cons_zero, List.set_cons_succ]
    refine reg_move (i := 4) rfl (by kernel_rfl) (by kernel_rfl) (by kernel_rfl) (fun _ _ _ _ h => h) rfl (.bool true) (fun _ => rfl) hS1.out ?_
    simp only [Act.put, List.getElem_toArray, List.getElem_cons_succ, List.getElem_cons_zero, List.setIfInBounds_toArray, List.set_cons_zero, List.set_cons_succ]
    refine reg_skipL (i := 5) rfl (by kernel_rfl) (by kernel_rfl) (by kernel_rfl) (fun _ _ _ _ h => h) rfl hS1.out ?_
    simp only [Act.put, List.getElem_toArray, List.getElem_cons_succ, List.getElem_cons_zero, List.setIfInBounds_toArray, List.set_cons_zero, List.set_cons_succ]
    refine reg_skipL (i := 6) rfl (by kernel_rfl) (by kernel_rfl) (by kernel_rfl) (fun _ _ _ _ h => h) rfl hS1.out ?_
    simp only [Act.put, List.getElem_toArray, List.getElem_cons_succ, List.getElem_cons_zero, List.setIfInBounds_toArray, List.set_cons_zero, List.set_cons_succ]
    refine reg_skipL (i := 7) rfl (by kernel_rfl) (by kernel_rfl) (by kernel_rfl) (fun _ _ _ _ h => h) rfl hS1.out ?_
    simp only [Act.put, List.getElem_toArray, List.getElem_cons_succ, List.getElem_cons_zero, List.setIfInBounds_toArray, List.set_cons_zero, List.set_cons_succ]
    refine reg_skipL (i := 8) rfl (by kernel_rfl) (by kernel_rfl) (by kernel_rfl) (fun _ _ _ _ h => h) rfl hS1.out ?_
    simp only [Act.put, List.getElem_toArray, List.getElem_cons_succ, List.getElem_cons_zero, List.setIfInBounds_toArray, List.set_cons_zero, List.set_cons_succ]
    refine reg_skipL (i := 9) rfl (by kernel_rfl) (by kernel_rfl) (by kernel_rfl) (fun _ _ _ _ h => h) rfl hS1.out ?_
    simp only [Act.put, List.getElem_toArray, List.getElem_cons_succ, List.getElem_cons_zero, List.setIfInBounds_toArray, List.set_cons_zero, List.set_cons_succ]
    refine reg_skipL (i := 10) rfl (by kernel_rfl) (by kernel_rfl) (by kernel_rfl) (fun _ _ _ _ h => h) rfl hS1.out ?_
    simp only [Act.put, List.getElem_toArray, List.getElem_cons_succ, List.getElem_cons_zero, List.setIfInBounds_toArray, List.set_cons_zero, List.set_cons_succ]
    refine reg_skipL (i := 11) rfl (by kernel_rfl) (by kernel_rfl) (by kernel_rfl) (fun _ _ _ _ h => h) rfl hS1.out ?_
    simp only [Act.put, List.getElem_toArray, List.getElem_cons_succ, List.getElem_cons_zero, List.setIfInBounds_toArray, List.set_cons_zero, List.set_cons_succ]
    refine reg_skipL (i := 12) rfl (by kernel_rfl) (by kernel_rfl) (by kernel_rfl) (fun _ _ _ _ h => h) rfl hS1.out ?_
    simp only [Act.put, List.getElem_toArray, List.getElem_cons_succ, List.getElem_cons_zero, List.setIfInBounds_toArray, List.set_cons_zero, List.set_cons_succ]
    refine reg_skipL (i := 13) rfl (by kernel_rfl) (by kernel_rfl) (by kernel_rfl) (fun _ _ _ _ h => h) rfl hS1.out ?_
    simp only [Act.put, List.getElem_toArray, List.getElem_cons_succ, List.getElem_cons_zero, List.setIfInBounds_toArray, List.set_cons_zero, List.set_cons_succ]
    refine reg_move (i := 14) rfl (by kernel_rfl) (by kernel_rfl) (by kernel_rfl) (fun _ _ _ _ h => h) rfl (.bool true) (fun _ => rfl) hS1.out ?_
    simp only [Act.put, List.getElem_toArray, List.getElem_cons_succ, List.getElem_cons_zero, List.setIfInBounds_toArray, List.set_cons_zero, List.set_cons_succ]
    refine reg_one (i := 15) (by kernel_rfl) rfl rfl (wpList_store_row rfl TD6 _ _ rfl (w.heap.size + 1 + 1) #[.int .i64 0, .slice va2 q vc2] rfl rfl _ _ hr4.out infoDg rfl (dg_one _ _ _ _) (wpList_nil (And.intro hSe.out fun _ => ?_)))
    simp only [Act.put, List.getElem_toArray, List.getElem_cons_succ, List.getElem_cons_zero, List.setIfInBounds_toArray, List.set_cons_zero, List.set_cons_succ]
    refine reg_move (i := 16) rfl (by kernel_rfl) (by kernel_rfl) (by kernel_rfl) (fun _ _ _ _ h => h) rfl (.bool true) (fun _ => rfl) hSe.out ?_
    simp only [Act.put, List.getElem_toArray, List.getElem_cons_succ, List.getElem_cons_zero, List.setIfInBounds_toArray, List.set_cons_zero, List.set_cons_succ]
    refine wpAnyH_done (by kernel_rfl) (NoPanic.normal ?_) _
    go_wp2
    refine bodyPost_ret (results_d2 Try.results36 _ _ (w.heap.size + 1 + 1) #[.int .i64 0, .slice va2 q vc2] (.bool true) rfl rfl rfl (setRow_heap _ _ _ _ _ _ hr4.out)) rfl ⟨va2, vc2, by first | rfl | simp, ?_, below_setRow (bthen hS4.out.b (bey_drew V4)) (by omega) _, fun g hg => ⟨by have := (blk_lt hX4.out.2 g hg).1; have := hlt2.out; omega, by rw [setRow_size]; exact (blk_lt hX4.out.2 g hg).2⟩⟩
    exact rows_keepL (own_rows hX4.out.2 (fun row hr => by obtain ⟨z, _, rfl⟩ := List.mem_map.mp hr; rfl)) fun g hg => setRow_other _ _ _ _ (by have := (blk_lt hX4.out.2 g hg).1; have := hlt2.out; omega)
  | true =>
    cases hem : x.em with
    | false =>
      have hS1 : Hid (V4.drew.heap[w.heap.size + 1]? = some (oCl x)) := hS4.out.x
      have hRd : Hid (∀ w' : World, w'.heap[w.heap.size + 1]? = some (oCl x) → w'.cell? ⟨w.heap.size + 1, 4, none⟩ = some (.bool x.em) ∧ w'.cell? ⟨w.heap.size + 1, 3, none⟩ = some (.int .i64 x.out)) := fun w' q => ⟨cell_lc (k := 4) q rfl, cell_lc (k := 3) q rfl⟩
      have hr4 : Hid (V4.drew.heap[w.heap.size + 1 + 1]? = some (oDg 0 none 0 0)) := hS4.out.r
      have hSe : Hid ((V4.drew.setRow (w.heap.size + 1 + 1) #[.int .i64 0, .slice va2 q vc2]).heap[w.heap.size + 1]? = some (oCl x)) := (setRow_other _ _ _ _ (by omega)).trans hS1.out
      refine wp_region_noPanic ?_
      refine wp_region_held_drew (S := fun w' => w'.heap[w.heap.size + 1]? = some (oCl x)) (by kernel_rfl) hS1.out (fun _ => ?_)
      refine reg_move (i := 0) rfl (by kernel_rfl) (by kernel_rfl) (by kernel_rfl) (fun _ _ _ _ h => h) rfl (.slice va2 q vc2) (fun _ => rfl) hS1.out ?_
      simp only [Act.put, List.getElem_toArray, List.getElem_cons_succ, List.getElem_cons_zero, List.setIfInBounds_toArray, List.set_cons_zero, List.set_cons_succ]
      refine reg_move (i := 1) rfl (by kernel_rfl) (by kernel_rfl) (by kernel_rfl) (fun _ _ _ _ h => h) rfl (.agg #[.int .i64 0, .slice va2 q vc2]) (fun wx => by unfold execOp; exact run_val2 (by simp only [List.map_toArray, List.map_cons, List.map_nil]; exact bld_D1 va2 q vc2 wx)) hS1.out ?_
      simp only [Act.put, List.getElem_toArray, List.getElem_cons_succ, List.getElem_cons_zero, List.setIfInBounds_toArray, List.set_cons_zero, List.set_cons_succ]
      refine reg_move (i := 2) rfl (by kernel_rfl) (by kernel_rfl) (by kernel_rfl) (fun _ _ _ _ h => h) rfl (.bool true) (fun _ => rfl) hS1.out ?_
      simp only [Act.put, List.getElem_toArray, List.getElem_cons_succ, List.getElem_cons_zero, List.setIfInBounds_toArray, List.set_cons_zero, List.set_cons_succ]
      refine reg_move (i := 3) rfl (by kernel_rfl) (by kernel_rfl) (by kernel_rfl) (fun _ _ _ _ h => h) rfl (.bool false) (fun _ => rfl) hS1.out ?_
      simp only [Act.put, List.getElem_toArray, List.getElem_cons_succ, List.getElem_cons_zero, List.setIfInBounds_toArray, List.set_cons_zero, List.set_cons_succ]
      refine reg_move (i := 4) rfl (by kernel_rfl) (by kernel_rfl) (by kernel_rfl) (fun _ _ _ _ h => h) rfl (.bool false) (fun _ => rfl) hS1.out ?_
      simp only [Act.put, List.getElem_toArray, List.getElem_cons_succ, List.getElem_cons_zero, List.setIfInBounds_toArray, List.set_cons_zero, List.set_cons_succ]
      refine reg_move (i := 5) rfl (by kernel_rfl) (by kernel_rfl) (by kernel_rfl) (fun _ _ _ _ h => h) rfl (.pointer (some ⟨w.heap.size + 1, 4, none⟩)) (fun _ => rfl) hS1.out ?_
      simp only [Act.put, List.getElem_toArray, List.getElem_cons_succ, List.getElem_cons_zero, List.setIfInBounds_toArray, List.set_cons_zero, List.set_cons_succ]
      refine reg_load1 (i := 6) rfl (by kernel_rfl) (by kernel_rfl) (by kernel_rfl) (fun _ _ _ _ h => h) rfl 4 _ rfl ⟨w.heap.size + 1, 4, none⟩ rfl _ Try.underlying4 rfl (.bool x.em) (fun w' q => (hRd.out w' q).1) hS1.out ?_
      simp only [Act.put, List.getElem_toArray, List.getElem_cons_succ, List.getElem_cons_zero, List.setIfInBounds_toArray, List.set_cons_zero, List.set_cons_succ]
      rw [hem]
      refine reg_move (i := 7) rfl (by kernel_rfl) (by kernel_rfl) (by kernel_rfl) (fun _ _ _ _ h => h) rfl (.bool true) (fun _ => rfl) hS1.out ?_
      simp only [Act.put, List.getElem_toArray, List.getElem_cons_succ, List.getElem_cons_zero, List.setIfInBounds_toArray, List.set_cons_zero, List.set_cons_succ]
      refine reg_move (i := 8) rfl (by kernel_rfl) (by kernel_rfl) (by kernel_rfl) (fun _ _ _ _ h => h) rfl (.bool true) (fun _ => rfl) hS1.out ?_
      simp only [Act.put, List.getElem_toArray, List.getElem_cons_succ, List.getElem_cons_zero, List.setIfInBounds_toArray, List.set_cons_zero, List.set_cons_succ]
      refine reg_move (i := 9) rfl (by kernel_rfl) (by kernel_rfl) (by kernel_rfl) (fun _ _ _ _ h => h) rfl (.pointer (some ⟨w.heap.size + 1, 3, none⟩)) (fun _ => rfl) hS1.out ?_
      simp only [Act.put, List.getElem_toArray, List.getElem_cons_succ, List.getElem_cons_zero, List.setIfInBounds_toArray, List.set_cons_zero, List.set_cons_succ]
      refine reg_load1 (i := 10) rfl (by kernel_rfl) (by kernel_rfl) (by kernel_rfl) (fun _ _ _ _ h => h) rfl 2 _ rfl ⟨w.heap.size + 1, 3, none⟩ rfl _ Try.underlying2 rfl (.int .i64 x.out) (fun w' q => (hRd.out w' q).2) hS1.out ?_
      simp only [Act.put, List.getElem_toArray, List.getElem_cons_succ, List.getElem_cons_zero, List.setIfInBounds_toArray, List.set_cons_zero, List.set_cons_succ]
      refine reg_move (i := 11) rfl (by kernel_rfl) (by kernel_rfl) (by kernel_rfl) (fun _ _ _ _ h => h) rfl (.int .i64 v) (fun _ => rfl) hS1.out ?_
      simp only [Act.put, List.getElem_toArray, List.getElem_cons_succ, List.getElem_cons_zero, List.setIfInBounds_toArray, List.set_cons_zero, List.set_cons_succ]
      refine reg_move (i := 12) rfl (by kernel_rfl) (by kernel_rfl) (by kernel_rfl) (fun _ _ _ _ h => h) rfl (.bool (x.out == v)) (fun _ => rfl) hS1.out ?_
      simp only [Act.put, List.getElem_toArray, List.getElem_cons_succ, List.getElem_cons_zero, List.setIfInBounds_toArray, List.set_cons_zero, List.set_cons_succ]
      refine reg_move (i := 13) rfl (by kernel_rfl) (by kernel_rfl) (by kernel_rfl) (fun _ _ _ _ h => h) rfl (.bool (x.out == v)) (fun _ => rfl) hS1.out ?_
      simp only [Act.put, List.getElem_toArray, List.getElem_cons_succ, List.getElem_cons_zero, List.setIfInBounds_toArray, List.set_cons_zero, List.set_cons_succ]
      refine reg_move (i := 14) rfl (by kernel_rfl) (by kernel_rfl) (by kernel_rfl) (fun _ _ _ _ h => h) rfl (.bool (x.out == v)) (fun _ => rfl) hS1.out ?_
      simp only [Act.put, List.getElem_toArray, List.getElem_cons_succ, List.getElem_cons_zero, List.setIfInBounds_toArray, List.set_cons_zero, List.set_cons_succ]
      refine reg_one (i := 15) (by kernel_rfl) rfl rfl (wpList_store_row rfl TD6 _ _ rfl (w.heap.size + 1 + 1) #[.int .i64 0, .slice va2 q vc2] rfl rfl _ _ hr4.out infoDg rfl (dg_one _ _ _ _) (wpList_nil (And.intro hSe.out fun _ => ?_)))
      simp only [Act.put, List.getElem_toArray, List.getElem_cons_succ, List.getElem_cons_zero, List.setIfInBounds_toArray, List.set_cons_zero, List.set_cons_succ]
      refine reg_move (i := 16) rfl (by kernel_rfl) (by kernel_rfl) (by kernel_rfl) (fun _ _ _ _ h => h) rfl (.bool (x.out == v)) (fun _ => rfl) hSe.out ?_
      simp only [Act.put, List.getElem_toArray, List.getElem_cons_succ, List.getElem_cons_zero, List.setIfInBounds_toArray, List.set_cons_zero, List.set_cons_succ]
      refine wpAnyH_done (by kernel_rfl) (NoPanic.normal ?_) _
      go_wp2
      refine bodyPost_ret (results_d2 Try.results36 _ _ (w.heap.size + 1 + 1) #[.int .i64 0, .slice va2 q vc2] (.bool (x.out == v)) rfl rfl rfl (setRow_heap _ _ _ _ _ _ hr4.out)) rfl ⟨va2, vc2, by simp [hem], ?_, below_setRow (bthen hS4.out.b (bey_drew V4)) (by omega) _, fun g hg => ⟨by have := (blk_lt hX4.out.2 g hg).1; have := hlt2.out; omega, by rw [setRow_size]; exact (blk_lt hX4.out.2 g hg).2⟩⟩
      exact rows_keepL (own_rows hX4.out.2 (fun row hr => by obtain ⟨z, _, rfl⟩ := List.mem_map.mp hr; rfl)) fun g hg => setRow_other _ _ _ _ (by have := (blk_lt hX4.out.2 g hg).1; have := hlt2.out; omega)
    | true =>
      have hS1 : Hid (V4.drew.heap[w.heap.size + 1]? = some (oCl x)) := hS4.out.x
      have hRd : Hid (∀ w' : World, w'.heap[w.heap.size + 1]? = some (oCl x) → w'.cell? ⟨w.heap.size + 1, 4, none⟩ = some (.bool x.em) ∧ w'.cell? ⟨w.heap.size + 1, 3, none⟩ = some (.int .i64 x.out)) := fun w' q => ⟨cell_lc (k := 4) q rfl, cell_lc (k := 3) q rfl⟩
      have hr4 : Hid (V4.drew.heap[w.heap.size + 1 + 1]? = some (oDg 0 none 0 0)) := hS4.out.r
      have hSe : Hid ((V4.drew.setRow (w.heap.size + 1 + 1) #[.int .i64 0, .slice va2 q vc2]).heap[w.heap.size + 1]? = some (oCl x)) := (setRow_other _ _ _ _ (by omega)).trans hS1.out
      refine wp_region_noPanic ?_
      refine wp_region_held_drew (S := fun w' => w'.heap[w.heap.size + 1]? = some (oCl x)) (by kernel_rfl) hS1.out (fun _ => ?_)
      refine reg_move (i := 0) rfl (by kernel_rfl) (by kernel_rfl) (by kernel_rfl) (fun _ _ _ _ h => h) rfl (.slice va2 q vc2) (fun _ => rfl) hS1.out ?_
      simp only [Act.put, List.getElem_toArray, List.getElem_cons_succ, List.getElem_cons_zero, List.setIfInBounds_toArray, List.set_cons_zero, List.set_cons_succ]
      refine reg_move (i := 1) rfl (by kernel_rfl) (by kernel_rfl) (by kernel_rfl) (fun _ _ _ _ h => h) rfl (.agg #[.int .i64 0, .slice va2 q vc2]) (fun wx => by unfold execOp; exact run_val2 (by simp only [List.map_toArray, List.map_cons, List.map_nil]; exact bld_D1 va2 q vc2 wx)) hS1.out ?_
      simp only [Act.put, List.getElem_toArray, List.getElem_cons_succ, List.getElem_cons_zero, List.setIfInBounds_toArray, List.set_cons_zero, List.set_cons_succ]
      refine reg_move (i := 2) rfl (by kernel_rfl) (by kernel_rfl) (by kernel_rfl) (fun _ _ _ _ h => h) rfl (.bool true) (fun _ => rfl) hS1.out ?_
      simp only [Act.put, List.getElem_toArray, List.getElem_cons_succ, List.getElem_cons_zero, List.setIfInBounds_toArray, List.set_cons_zero, List.set_cons_succ]
      refine reg_move (i := 3) rfl (by kernel_rfl) (by kernel_rfl) (by kernel_rfl) (fun _ _ _ _ h => h) rfl (.bool false) (fun _ => rfl) hS1.out ?_
      simp only [Act.put, List.getElem_toArray, List.getElem_cons_succ, List.getElem_cons_zero, List.setIfInBounds_toArray, List.set_cons_zero, List.set_cons_succ]
      refine reg_move (i := 4) rfl (by kernel_rfl) (by kernel_rfl) (by kernel_rfl) (fun _ _ _ _ h => h) rfl (.bool false) (fun _ => rfl) hS1.out ?_
      simp only [Act.put, List.getElem_toArray, List.getElem_cons_succ, List.getElem_cons_zero, List.setIfInBounds_toArray, List.set_cons_zero, List.set_cons_succ]
      refine reg_move (i := 5) rfl (by kernel_rfl) (by kernel_rfl) (by kernel_rfl) (fun _ _ _ _ h => h) rfl (.pointer (some ⟨w.heap.size + 1, 4, none⟩)) (fun _ => rfl) hS1.out ?_
      simp only [Act.put, List.getElem_toArray, List.getElem_cons_succ, List.getElem_cons_zero, List.setIfInBounds_toArray, List.set_cons_zero, List.set_cons_succ]
      refine reg_load1 (i := 6) rfl (by kernel_rfl) (by kernel_rfl) (by kernel_rfl) (fun _ _ _ _ h => h) rfl 4 _ rfl ⟨w.heap.size + 1, 4, none⟩ rfl _ Try.underlying4 rfl (.bool x.em) (fun w' q => (hRd.out w' q).1) hS1.out ?_
      simp only [Act.put, List.getElem_toArray, List.getElem_cons_succ, List.getElem_cons_zero, List.setIfInBounds_toArray, List.set_cons_zero, List.set_cons_succ]
      rw [hem]
      refine reg_move (i := 7) rfl (by kernel_rfl) (by kernel_rfl) (by kernel_rfl) (fun _ _ _ _ h => h) rfl (.bool false) (fun _ => rfl) hS1.out ?_
      simp only [Act.put, List.getElem_toArray, List.getElem_cons_succ, List.getElem_cons_zero, List.setIfInBounds_toArray, List.set_cons_zero, List.set_cons_succ]
      refine reg_move (i := 8) rfl (by kernel_rfl) (by kernel_rfl) (by kernel_rfl) (fun _ _ _ _ h => h) rfl (.bool false) (fun _ => rfl) hS1.out ?_
      simp only [Act.put, List.getElem_toArray, List.getElem_cons_succ, List.getElem_cons_zero, List.setIfInBounds_toArray, List.set_cons_zero, List.set_cons_succ]
      refine reg_skipL (i := 9) rfl (by kernel_rfl) (by kernel_rfl) (by kernel_rfl) (fun _ _ _ _ h => h) rfl hS1.out ?_
      simp only [Act.put, List.getElem_toArray, List.getElem_cons_succ, List.getElem_cons_zero, List.setIfInBounds_toArray, List.set_cons_zero, List.set_cons_succ]
      refine reg_skipL (i := 10) rfl (by kernel_rfl) (by kernel_rfl) (by kernel_rfl) (fun _ _ _ _ h => h) rfl hS1.out ?_
      simp only [Act.put, List.getElem_toArray, List.getElem_cons_succ, List.getElem_cons_zero, List.setIfInBounds_toArray, List.set_cons_zero, List.set_cons_succ]
      refine reg_skipL (i := 11) rfl (by kernel_rfl) (by kernel_rfl) (by kernel_rfl) (fun _ _ _ _ h => h) rfl hS1.out ?_
      simp only [Act.put, List.getElem_toArray, List.getElem_cons_succ, List.getElem_cons_zero, List.setIfInBounds_toArray, List.set_cons_zero, List.set_cons_succ]
      refine reg_skipL (i := 12) rfl (by kernel_rfl) (by kernel_rfl) (by kernel_rfl) (fun _ _ _ _ h => h) rfl hS1.out ?_
      simp only [Act.put, List.getElem_toArray, List.getElem_cons_succ, List.getElem_cons_zero, List.setIfInBounds_toArray, List.set_cons_zero, List.set_cons_succ]
      refine reg_move (i := 13) rfl (by kernel_rfl) (by kernel_rfl) (by kernel_rfl) (fun _ _ _ _ h => h) rfl (.bool false) (fun _ => rfl) hS1.out ?_
      simp only [Act.put, List.getElem_toArray, List.getElem_cons_succ, List.getElem_cons_zero, List.setIfInBounds_toArray, List.set_cons_zero, List.set_cons_succ]
      refine reg_move (i := 14) rfl (by kernel_rfl) (by kernel_rfl) (by kernel_rfl) (fun _ _ _ _ h => h) rfl (.bool false) (fun _ => rfl) hS1.out ?_
      simp only [Act.put, List.getElem_toArray, List.getElem_cons_succ, List.getElem_cons_zero, List.setIfInBounds_toArray, List.set_cons_zero, List.set_cons_succ]
      refine reg_one (i := 15) (by kernel_rfl) rfl rfl (wpList_store_row rfl TD6 _ _ rfl (w.heap.size + 1 + 1) #[.int .i64 0, .slice va2 q vc2] rfl rfl _ _ hr4.out infoDg rfl (dg_one _ _ _ _) (wpList_nil (And.intro hSe.out fun _ => ?_)))
      simp only [Act.put, List.getElem_toArray, List.getElem_cons_succ, List.getElem_cons_zero, List.setIfInBounds_toArray, List.set_cons_zero, List.set_cons_succ]
      refine reg_move (i := 16) rfl (by kernel_rfl) (by kernel_rfl) (by kernel_rfl) (fun _ _ _ _ h => h) rfl (.bool false) (fun _ => rfl) hSe.out ?_
      simp only [Act.put, List.getElem_toArray, List.getElem_cons_succ, List.getElem_cons_zero, List.setIfInBounds_toArray, List.set_cons_zero, List.set_cons_succ]
      refine wpAnyH_done (by kernel_rfl) (NoPanic.normal ?_) _
      go_wp2
      refine bodyPost_ret (results_d2 Try.results36 _ _ (w.heap.size + 1 + 1) #[.int .i64 0, .slice va2 q vc2] (.bool false) rfl rfl rfl (setRow_heap _ _ _ _ _ _ hr4.out)) rfl ⟨va2, vc2, by simp [hem], ?_, below_setRow (bthen hS4.out.b (bey_drew V4)) (by omega) _, fun g hg => ⟨by have := (blk_lt hX4.out.2 g hg).1; have := hlt2.out; omega, by rw [setRow_size]; exact (blk_lt hX4.out.2 g hg).2⟩⟩
      exact rows_keepL (own_rows hX4.out.2 (fun row hr => by obtain ⟨z, _, rfl⟩ := List.mem_map.mp hr; rfl)) fun g hg => setRow_other _ _ _ _ (by have := (blk_lt hX4.out.2 g hg).1; have := hlt2.out; omega)
end
end Go.Proofs.Ytklpifammbnldaa.pg
