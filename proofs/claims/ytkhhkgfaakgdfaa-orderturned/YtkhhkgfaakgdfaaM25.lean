/- An empty list literal; a row of a list written over. -/
import Derived.Test.YtkhhkgfaakgdfaaM22
import Derived.Test.YtkhhkgfaakgdfaaM9
import Derived.Test.YtkhhkgfaakgdfaaM23
namespace Go.Proofs.Ytkhhkgfaakgdfaa.pg
open Go.ChangeShapes Go.WideShapes Go.ChangeAt Go.RowKit
set_option linter.unusedVariables false
set_option linter.unusedSimpArgs false
theorem wpList_empty {P : Program} {ops : Array Oper} {rest : List Oper} {o : Oper} {a : Act} {w : World} {Q : Exit → Act → World → Prop} (hg : o.guard = none) (t e : TypeId) (ho : o.op = .buildSlice t 0 #[]) (ie : TypeInfo)
    (hu : P.underlying t = some (.slice e)) (hie : P.info? e = some ie)
    (h : wpList P ops Q rest (a.put o.dst (.slice (some ⟨w.heap.size, 0, none⟩) 0 0)) (w.alloc (.cells #[] e))) : wpList P ops Q (o :: rest) a w :=
  wpList_plain hg fun _ hK => by
    have hr : (Instr.buildSlice t 0 #[]).run P w = .ok (.slice (some ⟨w.heap.size, 0, none⟩) 0 0) (w.alloc (.cells #[] e)) := by
      simp [Instr.buildSlice, run_underlying hu, sizeOf, typeInfo, hie, newRow, Instr.fill, go_sem]
    unfold Oper.wp execOp
    simp only [ho, Sem.run_bind, Sem.run_pure, Result.andThen_ok, List.map_toArray, List.map_nil, Array.map_empty, hr]
    exact hK _ _ h
theorem own_empty (w : World) (lo e k : Nat) (hl : lo ≤ w.heap.size) : OwnL (w.alloc (.cells #[] e)) lo e k (some ⟨w.heap.size, 0, none⟩) 0 [] :=
  ⟨by simp, .inr ⟨w.heap.size, 0, #[], rfl, hl, heap_new_q w _, by simp, by unfold maxLen; omega, by simp, by simp⟩⟩
/-- A row of an own list can be written over. -/
theorem own_there {w : World} {lo e k : Nat} {g cap : Nat} {L : List (List Value)} (h : OwnL w lo e k (some ⟨g, 0, none⟩) cap L) (hk : ∀ row ∈ L, row.length = k) {i : Nat} (hi : i < L.length) : w.there g (i * k) k := by
  have hr := own_rows h hk
  obtain ⟨x, hx, hm⟩ := get_lt L i hi
  obtain ⟨b0, off, ha, hlt, hc⟩ := hr.row hx
  intro j hj
  refine ⟨?_, ?_⟩
  · have hlt2 : i * k + j < L.length * k := by
      have : (i + 1) * k ≤ L.length * k := Nat.mul_le_mul_right k hi
      rw [Nat.add_mul] at this
      omega
    rw [World.ownsRow.cellAt h (i * k + j) hlt2, flatten_at L hk i x hx j hj, List.getElem?_eq_getElem (by rw [hk x hm]; exact hj)]
    rfl
  · rcases h.2 with ⟨h1, _⟩ | ⟨g', cap', cur, h1, _, hg, _⟩
    · simp only [Value.slice.injEq] at h1
      cases h1.1
    · simp only [Value.slice.injEq, Option.some.injEq, Addr.mk.injEq, and_true, true_and] at h1
      rw [h1.1]
      exact frozen_of_row _ _ _ _ _ hg
theorem rows_put {w : World} {k g cap : Nat} {L : List (List Value)} (h : Rows w k (some ⟨g, 0, none⟩) cap L) {i : Nat} (hi : i < L.length) {row : List Value} (hr : row.length = k) (ht : w.there g (i * k) k) : Rows (w.setCells g (i * k) row) k (some ⟨g, 0, none⟩) cap (L.set i row) := by
  obtain ⟨h1, h2, h3, h4⟩ := h
  rcases h4 with rfl | ⟨b, off, ha, hlt, hc⟩
  · simp at hi
  · simp only [Option.some.injEq, Addr.mk.injEq, and_true] at ha
    obtain ⟨rfl, rfl⟩ := ha
    refine ⟨by simpa using h1, h2, by simp, .inr ⟨g, 0, rfl, ?_, fun q rw' hq => ?_⟩⟩
    · have := (World.keptBut_setCells g (may := fun _ => True) row (i * k) w (fun _ _ => trivial))
      have hs : w.heap.size ≤ (w.setCells g (i * k) row).heap.size := by
        have e : ∀ (vs : List Value) (o : Nat) (w : World), (w.setCells g o vs).heap.size = w.heap.size := by
          intro vs
          induction vs with
          | nil => intro o w; rfl
          | cons v vs ih => intro o w; simp only [World.setCells]; rw [ih]; exact World.size_setCell _ _ _
        rw [e]; exact Nat.le_refl _
      omega
    · rw [List.getElem?_set] at hq
      by_cases c : i = q
      · subst c
        rw [if_pos rfl, if_pos hi, Option.some.injEq] at hq
        subst hq
        refine ⟨hr, fun j u hj => ?_⟩
        have hjl := (List.getElem?_eq_some_iff.mp hj).1
        rw [Nat.zero_add]
        rw [World.cell?_setCells_in g row (i * k) w (fun j hj => (ht j (by omega)).1) j hjl]
        rw [← hj, List.getElem?_eq_getElem hjl]
      · rw [if_neg c] at hq
        obtain ⟨r1, r2⟩ := hc q rw' hq
        refine ⟨r1, fun j u hj => ?_⟩
        rw [World.cell?_setCells_out g row (i * k) w]
        · exact r2 j u hj
        · intro _ _
          show 0 + (q * k + j) < i * k ∨ i * k + row.length ≤ 0 + (q * k + j)
          have hjl : j < k := by have := (List.getElem?_eq_some_iff.mp hj).1; omega
          rw [hr]
          rcases Nat.lt_or_gt_of_ne c with c | c
          · right
            have : (i + 1) * k ≤ q * k := Nat.mul_le_mul_right k c
            rw [Nat.add_mul] at this
            omega
          · left
            have : (q + 1) * k ≤ i * k := Nat.mul_le_mul_right k c
            rw [Nat.add_mul] at this
            omega
theorem size_setCells (g : Nat) : ∀ (vs : List Value) (o : Nat) (w : World), (w.setCells g o vs).heap.size = w.heap.size
  | [], _, _ => rfl
  | v :: vs, o, w => by simp only [World.setCells]; rw [size_setCells g vs]; exact World.size_setCell _ _ _
theorem below_setCells {n₀ g : Nat} (hg : n₀ ≤ g) : ∀ (vs : List Value) (o : Nat) (w w' : World), Below n₀ w w' → Below n₀ w (w'.setCells g o vs)
  | [], _, _, _, h => h
  | v :: vs, o, w, w', h => below_setCells hg vs (o + 1) w _ (h.setCell (p := ⟨g, o, none⟩) hg v)
theorem rows_ix_g {t e : TypeId} {k : Nat} (hu : Try.prog.underlying t = some (.slice e)) (hz : ∀ wx, (sizeOf e).run Try.prog wx = .ok k wx) (g n cap i : Nat) (h : i < n) : ∀ wx, (Instr.indexAt t (.slice (some ⟨g, 0, none⟩) n cap) (.int .i64 (i : Int))).run Try.prog wx = .ok (.pointer (some ⟨g, i * k, none⟩)) wx := by
  intro wx
  have q1 : (i : Int) < n := by omega
  have q2 : ¬ (i : Int) < 0 := by omega
  simp [Instr.indexAt, run_underlying hu, asIntOf, go_sem, hz, q1, q2, h]
end Go.Proofs.Ytkhhkgfaakgdfaa.pg
/- How package order compares two edges. -/
namespace Go.Proofs.Ytkhhkgfaakgdfaa.pg
open Go.ChangeShapes Go.WideShapes Go.ChangeAt Go.RowKit Go.Shelf
set_option linter.unusedVariables false
set_option linter.unusedSimpArgs false
set_option maxRecDepth 100000
attribute [local go_sem ↓] Go.wp_at_zero Go.wp_at_succ
def cmp2 (a b : Nat × Nat) : Int := if cmpP a.1 b.1 = 0 then cmpP a.2 b.2 else cmpP a.1 b.1
theorem cmpP_val (a b : Int) : cmpP a b = -1 ∧ a < b ∨ cmpP a b = 0 ∧ a = b ∨ cmpP a b = 1 ∧ b < a := by
  unfold cmpP
  split
  · exact .inl ⟨rfl, by assumption⟩
  · split
    · exact .inr (.inr ⟨rfl, by omega⟩)
    · exact .inr (.inl ⟨rfl, by omega⟩)
set_option maxHeartbeats 1000000 in
theorem compare2_any (a b : Nat × Nat) (A B : Nat) (w : World) (a0 : w.cell? ⟨A, 0, none⟩ = some (.int .i64 (a.1 : Int))) (a1 : w.cell? ⟨A, 1, none⟩ = some (.int .i64 (a.2 : Int))) (b0 : w.cell? ⟨B, 0, none⟩ = some (.int .i64 (b.1 : Int))) (b1 : w.cell? ⟨B, 1, none⟩ = some (.int .i64 (b.2 : Int))) :
    Calls Try.prog 45 #[.slice (some ⟨A, 0, none⟩) 2 2, .slice (some ⟨B, 0, none⟩) 2 2] w fun e w' => e = .returned (.int .i64 (cmp2 a b)) ∧ w' = w := by
  have c1 : ∀ (x y : Int) wx, Calls Try.prog 68 #[.int .i64 x, .int .i64 y] wx _ := fun x y wx => cmp_any x y wx
  go_enter Try.func45, Try.ntmps45
  go_wp2
  go_loopw [11] (fun u wr => wr = w ∧ (u = .int .i64 0 ∨ u = .int .i64 1 ∧ Hid (cmpP a.1 b.1 = 0) ∨ u = .int .i64 2 ∧ Hid (cmpP a.1 b.1 = 0 ∧ cmpP a.2 b.2 = 0))) (fun u _ => 2 - (intOf u).toNat)
  case atStart => exact ⟨rfl, .inl rfl⟩
  case round =>
    obtain ⟨rfl, rfl | ⟨rfl, h0⟩ | ⟨rfl, h0⟩⟩ := hrel
    · by_cases e : cmpP a.1 b.1 = 0
      · have c2 : ∀ wx, Calls Try.prog 68 #[.int .i64 (a.1 : Int), .int .i64 (b.1 : Int)] wx fun e w' => e = .returned (.int .i64 0) ∧ w' = wx := fun wx => by rw [← e]; exact c1 _ _ wx
        have hh : Hid (cmpP a.1 b.1 = 0) := e
        clear e c1
        go_wp2_with (go_at_call 68; (with_reducible refine (c2 _).mono ?_); rintro e w1 ⟨rfl, rfl⟩)
        go_roundw
        case rel => exact ⟨trivial, .inr (.inl ⟨rfl, hh⟩)⟩
        case measure => simp [intOf]
      · have h2 : Hid (cmp2 a b = cmpP a.1 b.1) := by show _ = _; unfold cmp2; rw [if_neg e]
        have e2 : (cmpP a.1 b.1 == 0) = false := by simpa using e
        have c2 := c1 a.1 b.1
        generalize cmpP a.1 b.1 = r at *
        clear c1
        go_wp2_with (go_at_call 68; (with_reducible refine (c2 _).mono ?_); rintro e w1 ⟨rfl, rfl⟩)
        go_ret
        exact ⟨by rw [h2.out]; rfl, rfl⟩
    · by_cases e : cmpP a.2 b.2 = 0
      · have c2 : ∀ wx, Calls Try.prog 68 #[.int .i64 (a.2 : Int), .int .i64 (b.2 : Int)] wx fun e w' => e = .returned (.int .i64 0) ∧ w' = wx := fun wx => by rw [← e]; exact c1 _ _ wx
        have hh : Hid (cmpP a.1 b.1 = 0 ∧ cmpP a.2 b.2 = 0) := ⟨h0.out, e⟩
        clear e c1
        go_wp2_with (go_at_call 68; (with_reducible refine (c2 _).mono ?_); rintro e w1 ⟨rfl, rfl⟩)
        go_roundw
        case rel => exact ⟨trivial, .inr (.inr ⟨rfl, hh⟩)⟩
        case measure => simp [intOf]
      · have h2 : Hid (cmp2 a b = cmpP a.2 b.2) := by show _ = _; unfold cmp2; rw [if_pos h0.out]
        have e2 : (cmpP a.2 b.2 == 0) = false := by simpa using e
        have c2 := c1 a.2 b.2
        generalize cmpP a.2 b.2 = r at *
        clear c1
        go_wp2_with (go_at_call 68; (with_reducible refine (c2 _).mono ?_); rintro e w1 ⟨rfl, rfl⟩)
        go_ret
        exact ⟨by rw [h2.out]; rfl, rfl⟩
    · have h2 : Hid (cmp2 a b = 0) := by show _ = _; unfold cmp2; rw [if_pos h0.out.1]; exact h0.out.2
      go_wp2
      go_ret
      exact ⟨by rw [h2.out]; rfl, rfl⟩
abbrev objEdge (p : Nat × Nat) : Obj := .cells #[.int .i64 (p.1 : Int), .int .i64 (p.2 : Int)] 41
theorem sub2 (B : Nat) : ∀ wx, (Instr.sliceAt 41 (.pointer (some ⟨B, 0, none⟩)) none none none).run Try.prog wx = .ok (.slice (some ⟨B, 0, none⟩) 2 2) wx := by
  intro wx
  have u := Try.underlying41
  have z := Try.sizeOf3
  simp [Instr.sliceAt, run_underlying u, asIntOf, go_sem, z]
set_option maxHeartbeats 1000000 in
theorem cmpE_any (a b : Nat × Nat) (w : World) : Calls Try.prog 44 #[.agg (edg a).toArray, .agg (edg b).toArray] w fun e w' => e = .returned (.int .i64 (cmp2 a b)) ∧ ∃ q, w' = ((w.alloc (objEdge a)).alloc (objEdge b)).drewN q := by
  have s1 := sub2 w.heap.size
  have s2 := sub2 (w.heap.size + 1)
  have h1 : ((w.alloc (objEdge a)).alloc (objEdge b)).heap[w.heap.size]? = some (objEdge a) := (Below.heap_alloc _ _ _ (by simp [World.size_alloc])).trans (heap_alloc_new w _)
  have h2 : ((w.alloc (objEdge a)).alloc (objEdge b)).heap[w.heap.size + 1]? = some (objEdge b) := by
    have := heap_alloc_new (w.alloc (objEdge a)) (objEdge b)
    rwa [World.size_alloc] at this
  have c1 : ∀ wx, wx.heap[w.heap.size]? = some (objEdge a) → wx.heap[w.heap.size + 1]? = some (objEdge b) → Calls Try.prog 45 #[.slice (some ⟨w.heap.size, 0, none⟩) 2 2, .slice (some ⟨w.heap.size + 1, 0, none⟩) 2 2] wx fun e w' => e = .returned (.int .i64 (cmp2 a b)) ∧ w' = wx := fun wx q1 q2 => compare2_any a b _ _ wx (cell_of q1 rfl) (cell_of q1 rfl) (cell_of q2 rfl) (cell_of q2 rfl)
  generalize cmp2 a b = r at *
  show Calls Try.prog 44 #[.agg #[.int .i64 (a.1 : Int), .int .i64 (a.2 : Int)], .agg #[.int .i64 (b.1 : Int), .int .i64 (b.2 : Int)]] w _
  go_enter Try.func44, Try.ntmps44
  go_wp2_with fail
  generalize hWW : (w.alloc (objEdge a)).alloc (objEdge b) = W at *
  refine wp_region_held_drew (S := fun _ => True) (by kernel_rfl) trivial (fun hH => ?_)
  refine reg_move (i := 0) rfl (by kernel_rfl) (by kernel_rfl) (by kernel_rfl) (fun _ _ _ _ h => h) rfl (.slice (some ⟨w.heap.size, 0, none⟩) 2 2) (fun wx => by unfold execOp; exact run_value_of (s1 wx)) hH ?_
  simp only [Act.put, List.getElem_toArray, List.getElem_cons_succ, List.getElem_cons_zero, List.setIfInBounds_toArray, List.set_cons_zero, List.set_cons_succ]
  refine reg_move (i := 1) rfl (by kernel_rfl) (by kernel_rfl) (by kernel_rfl) (fun _ _ _ _ h => h) rfl (.slice (some ⟨w.heap.size + 1, 0, none⟩) 2 2) (fun wx => by unfold execOp; exact run_value_of (s2 wx)) hH ?_
  simp only [Act.put, List.getElem_toArray, List.getElem_cons_succ, List.getElem_cons_zero, List.setIfInBounds_toArray, List.set_cons_zero, List.set_cons_succ]
  refine reg_call2 (i := 2) (by kernel_rfl) rfl rfl 45 _ _ _ _ rfl (.slice (some ⟨w.heap.size, 0, none⟩) 2 2) (.slice (some ⟨w.heap.size + 1, 0, none⟩) 2 2) rfl rfl (cf_fn Try.func45 (by kernel_rfl) (by kernel_rfl) _ _) _ (c1 _ h1 h2) ?_
  rintro e w1 ⟨rfl, rfl⟩
  refine ⟨_, rfl, trivial, fun _ => ?_⟩
  simp only [Act.put, List.getElem_toArray, List.getElem_cons_succ, List.getElem_cons_zero, List.setIfInBounds_toArray, List.set_cons_zero, List.set_cons_succ]
  refine reg_move (i := 3) rfl (by kernel_rfl) (by kernel_rfl) (by kernel_rfl) (fun _ _ _ _ h => h) rfl _ (fun _ => rfl) trivial ?_
  simp only [Act.put, List.getElem_toArray, List.getElem_cons_succ, List.getElem_cons_zero, List.setIfInBounds_toArray, List.set_cons_zero, List.set_cons_succ]
  refine wpAnyH_done (by kernel_rfl) ?_ _
  go_wp2
  go_ret
  exact ⟨rfl, 1, by rw [hWW]; rfl⟩
end Go.Proofs.Ytkhhkgfaakgdfaa.pg
