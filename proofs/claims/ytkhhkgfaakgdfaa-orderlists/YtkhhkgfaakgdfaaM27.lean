/- How package order compares two edges. -/
import Derived.Test.YtkhhkgfaakgdfaaM23
namespace Go.Proofs.Ytkhhkgfaakgdfaa.pg
open Go.ChangeShapes Go.WideShapes Go.ChangeAt Go.RowKit Go.Shelf
set_option linter.unusedVariables false
set_option linter.unusedSimpArgs false
set_option maxRecDepth 100000
attribute [local go_sem ↓] Go.wp_at_zero Go.wp_at_succ
def cmp2 (a b : Nat × Nat) : Int := if cmpP a.1 b.1 = 0 then cmpP a.2 b.2 else cmpP a.1 b.1
theorem cmpP_val (a b : Int) : cmpP a b = -1 ∧ a < b ∨ cmpP a b = 0 ∧ a = b ∨ cmpP a b = 1 ∧ b < a := by
  unfold cmpP
  split
  · exact .inl ⟨rfl, by assumption⟩
  · split
    · exact .inr (.inr ⟨rfl, by omega⟩)
    · exact .inr (.inl ⟨rfl, by omega⟩)
set_option maxHeartbeats 1000000 in
theorem compare2_any (a b : Nat × Nat) (A B : Nat) (w : World) (a0 : w.cell? ⟨A, 0, none⟩ = some (.int .i64 (a.1 : Int))) (a1 : w.cell? ⟨A, 1, none⟩ = some (.int .i64 (a.2 : Int))) (b0 : w.cell? ⟨B, 0, none⟩ = some (.int .i64 (b.1 : Int))) (b1 : w.cell? ⟨B, 1, none⟩ = some (.int .i64 (b.2 : Int))) :
    Calls Try.prog 45 #[.slice (some ⟨A, 0, none⟩) 2 2, .slice (some ⟨B, 0, none⟩) 2 2] w fun e w' => e = .returned (.int .i64 (cmp2 a b)) ∧ w' = w := by
  have c1 : ∀ (x y : Int) wx, Calls Try.prog 68 #[.int .i64 x, .int .i64 y] wx _ := fun x y wx => cmp_any x y wx
  go_enter Try.func45, Try.ntmps45
  go_wp2
  go_loopw [11] (fun u wr => wr = w ∧ (u = .int .i64 0 ∨ u = .int .i64 1 ∧ Hid (cmpP a.1 b.1 = 0) ∨ u = .int .i64 2 ∧ Hid (cmpP a.1 b.1 = 0 ∧ cmpP a.2 b.2 = 0))) (fun u _ => 2 - (intOf u).toNat)
  case atStart => exact ⟨rfl, .inl rfl⟩
  case round =>
    obtain ⟨rfl, rfl | ⟨rfl, h0⟩ | ⟨rfl, h0⟩⟩ := hrel
    · by_cases e : cmpP a.1 b.1 = 0
      · have c2 : ∀ wx, Calls Try.prog 68 #[.int .i64 (a.1 : Int), .int .i64 (b.1 : Int)] wx fun e w' => e = .returned (.int .i64 0) ∧ w' = wx := fun wx => by rw [← e]; exact c1 _ _ wx
        have hh : Hid (cmpP a.1 b.1 = 0) := e
        clear e c1
        go_wp2_with (go_at_call 68; (with_reducible refine (c2 _).mono ?_); rintro e w1 ⟨rfl, rfl⟩)
        go_roundw
        case rel => exact ⟨trivial, .inr (.inl ⟨rfl, hh⟩)⟩
        case measure => simp [intOf]
      · have h2 : Hid (cmp2 a b = cmpP a.1 b.1) := by show _ = _; unfold cmp2; rw [if_neg e]
        have e2 : (cmpP a.1 b.1 == 0) = false := by simpa using e
        have c2 := c1 a.1 b.1
        generalize cmpP a.1 b.1 = r at *
        clear c1
        go_wp2_with (go_at_call 68; (with_reducible refine (c2 _).mono ?_); rintro e w1 ⟨rfl, rfl⟩)
        go_ret
        exact ⟨by rw [h2.out]; rfl, rfl⟩
    · by_cases e : cmpP a.2 b.2 = 0
      · have c2 : ∀ wx, Calls Try.prog 68 #[.int .i64 (a.2 : Int), .int .i64 (b.2 : Int)] wx fun e w' => e = .returned (.int .i64 0) ∧ w' = wx := fun wx => by rw [← e]; exact c1 _ _ wx
        have hh : Hid (cmpP a.1 b.1 = 0 ∧ cmpP a.2 b.2 = 0) := ⟨h0.out, e⟩
        clear e c1
        go_wp2_with (go_at_call 68; (with_reducible refine (c2 _).mono ?_); rintro e w1 ⟨rfl, rfl⟩)
        go_roundw
        case rel => exact ⟨trivial, .inr (.inr ⟨rfl, hh⟩)⟩
        case measure => simp [intOf]
      · have h2 : Hid (cmp2 a b = cmpP a.2 b.2) := by show _ = _; unfold cmp2; rw [if_pos h0.out]
        have e2 : (cmpP a.2 b.2 == 0) = false := by simpa using e
        have c2 := c1 a.2 b.2
        generalize cmpP a.2 b.2 = r at *
        clear c1
        go_wp2_with (go_at_call 68; (with_reducible refine (c2 _).mono ?_); rintro e w1 ⟨rfl, rfl⟩)
        go_ret
        exact ⟨by rw [h2.out]; rfl, rfl⟩
    · have h2 : Hid (cmp2 a b = 0) := by show _ = _; unfold cmp2; rw [if_pos h0.out.1]; exact h0.out.2
      go_wp2
      go_ret
      exact ⟨by rw [h2.out]; rfl, rfl⟩
abbrev objEdge (p : Nat × Nat) : Obj := .cells #[.int .i64 (p.1 : Int), .int .i64 (p.2 : Int)] 41
theorem sub2 (B : Nat) : ∀ wx, (Instr.sliceAt 41 (.pointer (some ⟨B, 0, none⟩)) none none none).run Try.prog wx = .ok (.slice (some ⟨B, 0, none⟩) 2 2) wx := by
  intro wx
  have u := Try.underlying41
  have z := Try.sizeOf3
  simp [Instr.sliceAt, run_underlying u, asIntOf, go_sem, z]
set_option maxHeartbeats 1000000 in
theorem cmpE_any (a b : Nat × Nat) (w : World) : Calls Try.prog 44 #[.agg (edg a).toArray, .agg (edg b).toArray] w fun e w' => e = .returned (.int .i64 (cmp2 a b)) ∧ ∃ q, w' = ((w.alloc (objEdge a)).alloc (objEdge b)).drewN q := by
  have s1 := sub2 w.heap.size
  have s2 := sub2 (w.heap.size + 1)
  have h1 : ((w.alloc (objEdge a)).alloc (objEdge b)).heap[w.heap.size]? = some (objEdge a) := (Below.heap_alloc _ _ _ (by simp [World.size_alloc])).trans (heap_alloc_new w _)
  have h2 : ((w.alloc (objEdge a)).alloc (objEdge b)).heap[w.heap.size + 1]? = some (objEdge b) := by
    have := heap_alloc_new (w.alloc (objEdge a)) (objEdge b)
    rwa [World.size_alloc] at this
  have c1 : ∀ wx, wx.heap[w.heap.size]? = some (objEdge a) → wx.heap[w.heap.size + 1]? = some (objEdge b) → Calls Try.prog 45 #[.slice (some ⟨w.heap.size, 0, none⟩) 2 2, .slice (some ⟨w.heap.size + 1, 0, none⟩) 2 2] wx fun e w' => e = .returned (.int .i64 (cmp2 a b)) ∧ w' = wx := fun wx q1 q2 => compare2_any a b _ _ wx (cell_of q1 rfl) (cell_of q1 rfl) (cell_of q2 rfl) (cell_of q2 rfl)
  generalize cmp2 a b = r at *
  show Calls Try.prog 44 #[.agg #[.int .i64 (a.1 : Int), .int .i64 (a.2 : Int)], .agg #[.int .i64 (b.1 : Int), .int .i64 (b.2 : Int)]] w _
  go_enter Try.func44, Try.ntmps44
  go_wp2_with fail
  generalize hWW : (w.alloc (objEdge a)).alloc (objEdge b) = W at *
  refine wp_region_held_drew (S := fun _ => True) (by kernel_rfl) trivial (fun hH => ?_)
  refine reg_move (i := 0) rfl (by kernel_rfl) (by kernel_rfl) (by kernel_rfl) (fun _ _ _ _ h => h) rfl (.slice (some ⟨w.heap.size, 0, none⟩) 2 2) (fun wx => by unfold execOp; exact run_value_of (s1 wx)) hH ?_
  simp only [Act.put, List.getElem_toArray, List.getElem_cons_succ, List.getElem_cons_zero, List.setIfInBounds_toArray, List.set_cons_zero, List.set_cons_succ]
  refine reg_move (i := 1) rfl (by kernel_rfl) (by kernel_rfl) (by kernel_rfl) (fun _ _ _ _ h => h) rfl (.slice (some ⟨w.heap.size + 1, 0, none⟩) 2 2) (fun wx => by unfold execOp; exact run_value_of (s2 wx)) hH ?_
  simp only [Act.put, List.getElem_toArray, List.getElem_cons_succ, List.getElem_cons_zero, List.setIfInBounds_toArray, List.set_cons_zero, List.set_cons_succ]
  refine reg_call2 (i := 2) (by kernel_rfl) rfl rfl 45 _ _ _ _ rfl (.slice (some ⟨w.heap.size, 0, none⟩) 2 2) (.slice (some ⟨w.heap.size + 1, 0, none⟩) 2 2) rfl rfl (cf_fn Try.func45 (by kernel_rfl) (by kernel_rfl) _ _) _ (c1 _ h1 h2) ?_
  rintro e w1 ⟨rfl, rfl⟩
  refine ⟨_, rfl, trivial, fun _ => ?_⟩
  simp only [Act.put, List.getElem_toArray, List.getElem_cons_succ, List.getElem_cons_zero, List.setIfInBounds_toArray, List.set_cons_zero, List.set_cons_succ]
  refine reg_move (i := 3) rfl (by kernel_rfl) (by kernel_rfl) (by kernel_rfl) (fun _ _ _ _ h => h) rfl _ (fun _ => rfl) trivial ?_
  simp only [Act.put, List.getElem_toArray, List.getElem_cons_succ, List.getElem_cons_zero, List.setIfInBounds_toArray, List.set_cons_zero, List.set_cons_succ]
  refine wpAnyH_done (by kernel_rfl) ?_ _
  go_wp2
  go_ret
  exact ⟨rfl, 1, by rw [hWW]; rfl⟩
end Go.Proofs.Ytkhhkgfaakgdfaa.pg

