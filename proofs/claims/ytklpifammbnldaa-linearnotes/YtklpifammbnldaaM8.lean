/- What is in a thing, and what may be done to it: what is taken out of it. -/
import Derived.Test.YtklpifammbnldaaM7
import Derived.BigRegion
import Derived.Deep.DeepCutAuto
import Derived.Laws.CopyOwn
namespace Go.Proofs.Ytklpifammbnldaa.pg
open Go.ChangeShapes Go.WideShapes Go.ChangeAt Go.RowKit
set_option linter.unusedVariables false
set_option linter.unusedSimpArgs false
set_option maxRecDepth 100000
attribute [local go_sem ↓] Go.wp_at_zero Go.wp_at_succ
theorem C3.setR {w W : World} {r o t : Array Value} (h : C3 w W r o t) (r' : Array Value) : C3 w (W.setRow w.heap.size r') r' o t :=
  ⟨setRow_heap W _ _ _ _ _ h.r, (setRow_other _ _ _ _ (by omega)).trans h.o, (setRow_other _ _ _ _ (by omega)).trans h.t, below_setRow h.b (Nat.le_refl _) _⟩
set_option maxHeartbeats 1000000 in
theorem read_d (a0 inn : Int) : DeedR 58 ([a0] : List Int) inn ([a0], a0, false) := by
  intro w
  have huC : Hid (Try.prog.underlying 59 = _) := Try.underlying59
  have s0 : Hid (C3 w _ _ _ _) := C3.start w (vC ([a0] : List Int))
  go_enter Try.func58, Try.ntmps58
  go_upto_region 1 with fail
  generalize ((w.alloc (.cells (vC ([a0] : List Int)) TC)).alloc (.cells z9 TC)).alloc (.cells (aV 0 false) TA) = W at *
  have huA : Hid (Try.prog.underlying 127 = _) := Try.underlying127
  refine wp_region_held_drew (S := fun w' => ∃ o t, C3 w w' (vC [a0]) o t) (by kernel_rfl) ⟨_, _, s0.out.later (bey_drew W)⟩ (fun hH => ?_)
  have s1 : Hid (C3 w W.drew (vC [a0]) z9 (aV 0 false)) := s0.out.later (bey_drew W)
  generalize W.drew = V at *
  clear s0
  refine reg_load (i := 0) rfl (by kernel_rfl) (by kernel_rfl) (by kernel_rfl) (fun _ _ _ _ h => h) rfl 59 _ rfl w.heap.size 0 rfl (vC [a0]).toList _ (fun w' ⟨o, t, h'⟩ j v hj => by rw [Nat.zero_add]; exact cell_lc h'.r (by simpa using hj)) huC.out rfl infoC9 hH ?_
  simp only [Act.put, List.getElem_toArray, List.getElem_cons_succ, List.getElem_cons_zero, List.setIfInBounds_toArray, List.set_cons_zero, List.set_cons_succ]
  refine reg_move (i := 1) rfl (by kernel_rfl) (by kernel_rfl) (by kernel_rfl) (fun _ _ _ _ h => h) rfl (.pointer (some ⟨w.heap.size, 0, none⟩)) (fun _ => by first | rfl | kernel_rfl) hH ?_
  simp only [Act.put, List.getElem_toArray, List.getElem_cons_succ, List.getElem_cons_zero, List.setIfInBounds_toArray, List.set_cons_zero, List.set_cons_succ]
  refine reg_move (i := 2) rfl (by kernel_rfl) (by kernel_rfl) (by kernel_rfl) (fun _ _ _ _ h => h) rfl (.pointer (some ⟨w.heap.size, 0, none⟩)) (fun wx => by (have := ix8 w.heap.size 0 (by omega) wx; simp [execOp, this, go_sem])) hH ?_
  simp only [Act.put, List.getElem_toArray, List.getElem_cons_succ, List.getElem_cons_zero, List.setIfInBounds_toArray, List.set_cons_zero, List.set_cons_succ]
  refine reg_load1 (i := 3) rfl (by kernel_rfl) (by kernel_rfl) (by kernel_rfl) (fun _ _ _ _ h => h) rfl 2 _ rfl ⟨w.heap.size, 0, none⟩ rfl _ Try.underlying2 rfl (.int .i64 a0) (fun w' ⟨o, t, h'⟩ => cell_lc (k := 0) h'.r rfl) hH ?_
  simp only [Act.put, List.getElem_toArray, List.getElem_cons_succ, List.getElem_cons_zero, List.setIfInBounds_toArray, List.set_cons_zero, List.set_cons_succ]
  refine reg_move (i := 4) rfl (by kernel_rfl) (by kernel_rfl) (by kernel_rfl) (fun _ _ _ _ h => h) rfl (.agg (aV a0 false)) (fun _ => by first | rfl | kernel_rfl) hH ?_
  simp only [Act.put, List.getElem_toArray, List.getElem_cons_succ, List.getElem_cons_zero, List.setIfInBounds_toArray, List.set_cons_zero, List.set_cons_succ]
  refine reg_one (i := 5) (by kernel_rfl) rfl rfl ?_
  refine wpList_store_row rfl 59 _ _ rfl (w.heap.size + 1) (vC [a0]) rfl rfl _ _ s1.out.o infoC9 rfl (by simp [vC, Value.oneCell']) ?_
  have sO : Hid (C3 w _ _ _ _) := s1.out.row (vC [a0])
  generalize World.setRow _ _ _ = WO at *
  refine wpList_nil ⟨⟨_, _, sO.out⟩, fun hH => ?_⟩
  simp only [Act.put, List.getElem_toArray, List.getElem_cons_succ, List.getElem_cons_zero, List.setIfInBounds_toArray, List.set_cons_zero, List.set_cons_succ]
  refine reg_one (i := 6) (by kernel_rfl) rfl rfl ?_
  refine wpList_store_row rfl 127 _ _ rfl (w.heap.size + 1 + 1) (aV a0 false) rfl rfl _ _ sO.out.t infoAn rfl (by simp [Value.oneCell']) ?_
  have sA : Hid (C3 w _ _ _ _) := sO.out.ans (aV a0 false)
  generalize World.setRow _ _ _ = WA at *
  refine wpList_nil ⟨⟨_, _, sA.out⟩, fun hH => ?_⟩
  simp only [Act.put, List.getElem_toArray, List.getElem_cons_succ, List.getElem_cons_zero, List.setIfInBounds_toArray, List.set_cons_zero, List.set_cons_succ]
  refine wpAnyH_done (by kernel_rfl) ?_ _
  go_wp2
  exact bodyPost_ret (res_ca Try.results58 _ sA.out rfl rfl rfl rfl) rfl ⟨rfl, sA.out.b⟩
set_option maxHeartbeats 1000000 in
theorem takel_d0 (inn : Int) : DeedR 63 ([] : List Int) inn ([], 0, true) := by
  intro w
  have huC : Hid (Try.prog.underlying 59 = _) := Try.underlying59
  have s0 : Hid (C3 w _ _ _ _) := C3.start w (vC ([] : List Int))
  go_enter Try.func63, Try.ntmps63
  go_upto_region 1 with fail
  generalize ((w.alloc (.cells (vC ([] : List Int)) TC)).alloc (.cells z9 TC)).alloc (.cells (aV 0 false) TA) = W at *
  have k8 : W.cell? ⟨w.heap.size, 8, none⟩ = some (.int .i64 0) := cell_lc (k := 8) s0.out.r rfl
  go_wp2_with (first
    | (refine wpList_load_row rfl 59 _ rfl w.heap.size rfl _ _ _ _ s0.out.r huC.out rfl infoC9 ?_)
    | (refine wpList_store_row rfl 59 _ _ rfl (w.heap.size + 1) (vC []) rfl rfl _ _ s0.out.o infoC9 rfl (by simp [vC, Value.oneCell']) ?_; (have sO : Hid (C3 w _ _ _ _) := s0.out.row (vC [])); generalize World.setRow _ _ _ = WO at *)
    | (refine wpList_store_row rfl 127 _ _ rfl (w.heap.size + 1 + 1) (aV 0 true) rfl rfl _ _ sO.out.t infoAn rfl (by simp [Value.oneCell']) ?_; (have sA : Hid (C3 w _ _ _ _) := sO.out.ans (aV 0 true))))
  exact bodyPost_ret (res_ca Try.results63 _ sA.out rfl rfl rfl rfl) rfl ⟨rfl, sA.out.b⟩
set_option maxHeartbeats 1000000 in
theorem takel_d1 (a0 inn : Int) : DeedR 63 ([a0] : List Int) inn (([] : List Int), a0, false) := by
  intro w
  have huC : Hid (Try.prog.underlying 59 = _) := Try.underlying59
  have s0 : Hid (C3 w _ _ _ _) := C3.start w (vC ([a0] : List Int))
  go_enter Try.func63, Try.ntmps63
  go_upto_region 1 with fail
  generalize ((w.alloc (.cells (vC ([a0] : List Int)) TC)).alloc (.cells z9 TC)).alloc (.cells (aV 0 false) TA) = W at *
  have x0 : ∀ wx, (Instr.indexAt 57 (.pointer (some ⟨w.heap.size, 0, none⟩)) (.int .i64 0)).run Try.prog wx = .ok (.pointer (some ⟨w.heap.size, 0, none⟩)) wx := ix8 w.heap.size 0 (by omega)
  have k8 : W.cell? ⟨w.heap.size, 8, none⟩ = some (.int .i64 1) := cell_lc (k := 8) s0.out.r rfl
  go_wp2_with (first
    | (refine wpList_puti rfl 3 _ _ rfl ⟨w.heap.size, 8, none⟩ rfl 0 rfl (by kernel_rfl) _ (cell_lc (k := 8) s0.out.r rfl) (s0.out.frz 8) fun W1 hW1 => ?_; (have s1 : Hid (C3 w W1 #[.int .i64 a0, .int .i64 0, .int .i64 0, .int .i64 0, .int .i64 0, .int .i64 0, .int .i64 0, .int .i64 0, .int .i64 0] z9 (aV 0 false)) := by (rw [hW1]; exact s0.out.set 8 _)); clear hW1; clear s0 k8; (have k8 : W1.cell? ⟨w.heap.size, 8, none⟩ = some (.int .i64 0) := cell_lc (k := 8) s1.out.r rfl); (have km : W1.cell? ⟨w.heap.size, 0, none⟩ = some (.int .i64 a0) := cell_lc (k := 0) s1.out.r rfl))
    | (refine wpList_puti rfl 2 _ _ rfl ⟨w.heap.size, 0, none⟩ rfl 0 rfl (by kernel_rfl) _ (cell_lc (k := 0) s1.out.r rfl) (s1.out.frz 0) fun W2 hW2 => ?_; (have s2 : Hid (C3 w W2 (vC ([] : List Int)) z9 (aV 0 false)) := by (rw [hW2]; exact s1.out.set 0 _)); clear hW2; clear s1 k8 km)
    | (refine wpList_load_row rfl 59 _ rfl w.heap.size rfl _ _ _ _ s2.out.r huC.out rfl infoC9 ?_)
    | (refine wpList_store_row rfl 59 _ _ rfl (w.heap.size + 1) (vC ([] : List Int)) rfl rfl _ _ s2.out.o infoC9 rfl (by simp [vC, Value.oneCell']) ?_; (have sO : Hid (C3 w _ _ _ _) := s2.out.row (vC ([] : List Int))); generalize World.setRow _ _ _ = WO at *)
    | (refine wpList_store_row rfl 127 _ _ rfl (w.heap.size + 1 + 1) (aV a0 false) rfl rfl _ _ sO.out.t infoAn rfl (by simp [Value.oneCell']) ?_; (have sA : Hid (C3 w _ _ _ _) := sO.out.ans (aV a0 false))))
  exact bodyPost_ret (res_ca Try.results63 _ sA.out rfl rfl rfl rfl) rfl ⟨rfl, sA.out.b⟩
set_option maxHeartbeats 1000000 in
theorem takel_d2 (a0 a1 inn : Int) : DeedR 63 ([a0, a1] : List Int) inn (([a0] : List Int), a1, false) := by
  intro w
  have huC : Hid (Try.prog.underlying 59 = _) := Try.underlying59
  have s0 : Hid (C3 w _ _ _ _) := C3.start w (vC ([a0, a1] : List Int))
  go_enter Try.func63, Try.ntmps63
  go_upto_region 1 with fail
  generalize ((w.alloc (.cells (vC ([a0, a1] : List Int)) TC)).alloc (.cells z9 TC)).alloc (.cells (aV 0 false) TA) = W at *
  have x0 : ∀ wx, (Instr.indexAt 57 (.pointer (some ⟨w.heap.size, 0, none⟩)) (.int .i64 0)).run Try.prog wx = .ok (.pointer (some ⟨w.heap.size, 0, none⟩)) wx := ix8 w.heap.size 0 (by omega)
  have x1 : ∀ wx, (Instr.indexAt 57 (.pointer (some ⟨w.heap.size, 0, none⟩)) (.int .i64 1)).run Try.prog wx = .ok (.pointer (some ⟨w.heap.size, 1, none⟩)) wx := ix8 w.heap.size 1 (by omega)
  have k8 : W.cell? ⟨w.heap.size, 8, none⟩ = some (.int .i64 2) := cell_lc (k := 8) s0.out.r rfl
  go_wp2_with (first
    | (refine wpList_puti rfl 3 _ _ rfl ⟨w.heap.size, 8, none⟩ rfl 1 rfl (by kernel_rfl) _ (cell_lc (k := 8) s0.out.r rfl) (s0.out.frz 8) fun W1 hW1 => ?_; (have s1 : Hid (C3 w W1 #[.int .i64 a0, .int .i64 a1, .int .i64 0, .int .i64 0, .int .i64 0, .int .i64 0, .int .i64 0, .int .i64 0, .int .i64 1] z9 (aV 0 false)) := by (rw [hW1]; exact s0.out.set 8 _)); clear hW1; clear s0 k8; (have k8 : W1.cell? ⟨w.heap.size, 8, none⟩ = some (.int .i64 1) := cell_lc (k := 8) s1.out.r rfl); (have km : W1.cell? ⟨w.heap.size, 1, none⟩ = some (.int .i64 a1) := cell_lc (k := 1) s1.out.r rfl))
    | (refine wpList_puti rfl 2 _ _ rfl ⟨w.heap.size, 1, none⟩ rfl 0 rfl (by kernel_rfl) _ (cell_lc (k := 1) s1.out.r rfl) (s1.out.frz 1) fun W2 hW2 => ?_; (have s2 : Hid (C3 w W2 (vC ([a0] : List Int)) z9 (aV 0 false)) := by (rw [hW2]; exact s1.out.set 1 _)); clear hW2; clear s1 k8 km)
    | (refine wpList_load_row rfl 59 _ rfl w.heap.size rfl _ _ _ _ s2.out.r huC.out rfl infoC9 ?_)
    | (refine wpList_store_row rfl 59 _ _ rfl (w.heap.size + 1) (vC ([a0] : List Int)) rfl rfl _ _ s2.out.o infoC9 rfl (by simp [vC, Value.oneCell']) ?_; (have sO : Hid (C3 w _ _ _ _) := s2.out.row (vC ([a0] : List Int))); generalize World.setRow _ _ _ = WO at *)
    | (refine wpList_store_row rfl 127 _ _ rfl (w.heap.size + 1 + 1) (aV a1 false) rfl rfl _ _ sO.out.t infoAn rfl (by simp [Value.oneCell']) ?_; (have sA : Hid (C3 w _ _ _ _) := sO.out.ans (aV a1 false))))
  exact bodyPost_ret (res_ca Try.results63 _ sA.out rfl rfl rfl rfl) rfl ⟨rfl, sA.out.b⟩
set_option maxHeartbeats 1000000 in
theorem takel_d3 (a0 a1 a2 inn : Int) : DeedR 63 ([a0, a1, a2] : List Int) inn (([a0, a1] : List Int), a2, false) := by
  intro w
  have huC : Hid (Try.prog.underlying 59 = _) := Try.underlying59
  have s0 : Hid (C3 w _ _ _ _) := C3.start w (vC ([a0, a1, a2] : List Int))
  go_enter Try.func63, Try.ntmps63
  go_upto_region 1 with fail
  generalize ((w.alloc (.cells (vC ([a0, a1, a2] : List Int)) TC)).alloc (.cells z9 TC)).alloc (.cells (aV 0 false) TA) = W at *
  have x0 : ∀ wx, (Instr.indexAt 57 (.pointer (some ⟨w.heap.size, 0, none⟩)) (.int .i64 0)).run Try.prog wx = .ok (.pointer (some ⟨w.heap.size, 0, none⟩)) wx := ix8 w.heap.size 0 (by omega)
  have x1 : ∀ wx, (Instr.indexAt 57 (.pointer (some ⟨w.heap.size, 0, none⟩)) (.int .i64 2)).run Try.prog wx = .ok (.pointer (some ⟨w.heap.size, 2, none⟩)) wx := ix8 w.heap.size 2 (by omega)
  have k8 : W.cell? ⟨w.heap.size, 8, none⟩ = some (.int .i64 3) := cell_lc (k := 8) s0.out.r rfl
  go_wp2_with (first
    | (refine wpList_puti rfl 3 _ _ rfl ⟨w.heap.size, 8, none⟩ rfl 2 rfl (by kernel_rfl) _ (cell_lc (k := 8) s0.out.r rfl) (s0.out.frz 8) fun W1 hW1 => ?_; (have s1 : Hid (C3 w W1 #[.int .i64 a0, .int .i64 a1, .int .i64 a2, .int .i64 0, .int .i64 0, .int .i64 0, .int .i64 0, .int .i64 0, .int .i64 2] z9 (aV 0 false)) := by (rw [hW1]; exact s0.out.set 8 _)); clear hW1; clear s0 k8; (have k8 : W1.cell? ⟨w.heap.size, 8, none⟩ = some (.int .i64 2) := cell_lc (k := 8) s1.out.r rfl); (have km : W1.cell? ⟨w.heap.size, 2, none⟩ = some (.int .i64 a2) := cell_lc (k := 2) s1.out.r rfl))
    | (refine wpList_puti rfl 2 _ _ rfl ⟨w.heap.size, 2, none⟩ rfl 0 rfl (by kernel_rfl) _ (cell_lc (k := 2) s1.out.r rfl) (s1.out.frz 2) fun W2 hW2 => ?_; (have s2 : Hid (C3 w W2 (vC ([a0, a1] : List Int)) z9 (aV 0 false)) := by (rw [hW2]; exact s1.out.set 2 _)); clear hW2; clear s1 k8 km)
    | (refine wpList_load_row rfl 59 _ rfl w.heap.size rfl _ _ _ _ s2.out.r huC.out rfl infoC9 ?_)
    | (refine wpList_store_row rfl 59 _ _ rfl (w.heap.size + 1) (vC ([a0, a1] : List Int)) rfl rfl _ _ s2.out.o infoC9 rfl (by simp [vC, Value.oneCell']) ?_; (have sO : Hid (C3 w _ _ _ _) := s2.out.row (vC ([a0, a1] : List Int))); generalize World.setRow _ _ _ = WO at *)
    | (refine wpList_store_row rfl 127 _ _ rfl (w.heap.size + 1 + 1) (aV a2 false) rfl rfl _ _ sO.out.t infoAn rfl (by simp [Value.oneCell']) ?_; (have sA : Hid (C3 w _ _ _ _) := sO.out.ans (aV a2 false))))
  exact bodyPost_ret (res_ca Try.results63 _ sA.out rfl rfl rfl rfl) rfl ⟨rfl, sA.out.b⟩
set_option maxHeartbeats 1000000 in
theorem takel_d4 (a0 a1 a2 a3 inn : Int) : DeedR 63 ([a0, a1, a2, a3] : List Int) inn (([a0, a1, a2] : List Int), a3, false) := by
  intro w
  have huC : Hid (Try.prog.underlying 59 = _) := Try.underlying59
  have s0 : Hid (C3 w _ _ _ _) := C3.start w (vC ([a0, a1, a2, a3] : List Int))
  go_enter Try.func63, Try.ntmps63
  go_upto_region 1 with fail
  generalize ((w.alloc (.cells (vC ([a0, a1, a2, a3] : List Int)) TC)).alloc (.cells z9 TC)).alloc (.cells (aV 0 false) TA) = W at *
  have x0 : ∀ wx, (Instr.indexAt 57 (.pointer (some ⟨w.heap.size, 0, none⟩)) (.int .i64 0)).run Try.prog wx = .ok (.pointer (some ⟨w.heap.size, 0, none⟩)) wx := ix8 w.heap.size 0 (by omega)
  have x1 : ∀ wx, (Instr.indexAt 57 (.pointer (some ⟨w.heap.size, 0, none⟩)) (.int .i64 3)).run Try.prog wx = .ok (.pointer (some ⟨w.heap.size, 3, none⟩)) wx := ix8 w.heap.size 3 (by omega)
  have k8 : W.cell? ⟨w.heap.size, 8, none⟩ = some (.int .i64 4) := cell_lc (k := 8) s0.out.r rfl
  go_wp2_with (first
    | (refine wpList_puti rfl 3 _ _ rfl ⟨w.heap.size, 8, none⟩ rfl 3 rfl (by kernel_rfl) _ (cell_lc (k := 8) s0.out.r rfl) (s0.out.frz 8) fun W1 hW1 => ?_; (have s1 : Hid (C3 w W1 #[.int .i64 a0, .int .i64 a1, .int .i64 a2, .int .i64 a3, .int .i64 0, .int .i64 0, .int .i64 0, .int .i64 0, .int .i64 3] z9 (aV 0 false)) := by (rw [hW1]; exact s0.out.set 8 _)); clear hW1; clear s0 k8; (have k8 : W1.cell? ⟨w.heap.size, 8, none⟩ = some (.int .i64 3) := cell_lc (k := 8) s1.out.r rfl); (have km : W1.cell? ⟨w.heap.size, 3, none⟩ = some (.int .i64 a3) := cell_lc (k := 3) s1.out.r rfl))
    | (refine wpList_puti rfl 2 _ _ rfl ⟨w.heap.size, 3, none⟩ rfl 0 rfl (by kernel_rfl) _ (cell_lc (k := 3) s1.out.r rfl) (s1.out.frz 3) fun W2 hW2 => ?_; (have s2 : Hid (C3 w W2 (vC ([a0, a1, a2] : List Int)) z9 (aV 0 false)) := by (rw [hW2]; exact s1.out.set 3 _)); clear hW2; clear s1 k8 km)
    | (refine wpList_load_row rfl 59 _ rfl w.heap.size rfl _ _ _ _ s2.out.r huC.out rfl infoC9 ?_)
    | (refine wpList_store_row rfl 59 _ _ rfl (w.heap.size + 1) (vC ([a0, a1, a2] : List Int)) rfl rfl _ _ s2.out.o infoC9 rfl (by simp [vC, Value.oneCell']) ?_; (have sO : Hid (C3 w _ _ _ _) := s2.out.row (vC ([a0, a1, a2] : List Int))); generalize World.setRow _ _ _ = WO at *)
    | (refine wpList_store_row rfl 127 _ _ rfl (w.heap.size + 1 + 1) (aV a3 false) rfl rfl _ _ sO.out.t infoAn rfl (by simp [Value.oneCell']) ?_; (have sA : Hid (C3 w _ _ _ _) := sO.out.ans (aV a3 false))))
  exact bodyPost_ret (res_ca Try.results63 _ sA.out rfl rfl rfl rfl) rfl ⟨rfl, sA.out.b⟩
set_option maxHeartbeats 1000000 in
theorem takel_d5 (a0 a1 a2 a3 a4 inn : Int) : DeedR 63 ([a0, a1, a2, a3, a4] : List Int) inn (([a0, a1, a2, a3] : List Int), a4, false) := by
  intro w
  have huC : Hid (Try.prog.underlying 59 = _) := Try.underlying59
  have s0 : Hid (C3 w _ _ _ _) := C3.start w (vC ([a0, a1, a2, a3, a4] : List Int))
  go_enter Try.func63, Try.ntmps63
  go_upto_region 1 with fail
  generalize ((w.alloc (.cells (vC ([a0, a1, a2, a3, a4] : List Int)) TC)).alloc (.cells z9 TC)).alloc (.cells (aV 0 false) TA) = W at *
  have x0 : ∀ wx, (Instr.indexAt 57 (.pointer (some ⟨w.heap.size, 0, none⟩)) (.int .i64 0)).run Try.prog wx = .ok (.pointer (some ⟨w.heap.size, 0, none⟩)) wx := ix8 w.heap.size 0 (by omega)
  have x1 : ∀ wx, (Instr.indexAt 57 (.pointer (some ⟨w.heap.size, 0, none⟩)) (.int .i64 4)).run Try.prog wx = .ok (.pointer (some ⟨w.heap.size, 4, none⟩)) wx := ix8 w.heap.size 4 (by omega)
  have k8 : W.cell? ⟨w.heap.size, 8, none⟩ = some (.int .i64 5) := cell_lc (k := 8) s0.out.r rfl
  go_wp2_with (first
    | (refine wpList_puti rfl 3 _ _ rfl ⟨w.heap.size, 8, none⟩ rfl 4 rfl (by kernel_rfl) _ (cell_lc (k := 8) s0.out.r rfl) (s0.out.frz 8) fun W1 hW1 => ?_; (have s1 : Hid (C3 w W1 #[.int .i64 a0, .int .i64 a1, .int .i64 a2, .int .i64 a3, .int .i64 a4, .int .i64 0, .int .i64 0, .int .i64 0, .int .i64 4] z9 (aV 0 false)) := by (rw [hW1]; exact s0.out.set 8 _)); clear hW1; clear s0 k8; (have k8 : W1.cell? ⟨w.heap.size, 8, none⟩ = some (.int .i64 4) := cell_lc (k := 8) s1.out.r rfl); (have km : W1.cell? ⟨w.heap.size, 4, none⟩ = some (.int .i64 a4) := cell_lc (k := 4) s1.out.r rfl))
    | (refine wpList_puti rfl 2 _ _ rfl ⟨w.heap.size, 4, none⟩ rfl 0 rfl (by kernel_rfl) _ (cell_lc (k := 4) s1.out.r rfl) (s1.out.frz 4) fun W2 hW2 => ?_; (have s2 : Hid (C3 w W2 (vC ([a0, a1, a2, a3] : List Int)) z9 (aV 0 false)) := by (rw [hW2]; exact s1.out.set 4 _)); clear hW2; clear s1 k8 km)
    | (refine wpList_load_row rfl 59 _ rfl w.heap.size rfl _ _ _ _ s2.out.r huC.out rfl infoC9 ?_)
    | (refine wpList_store_row rfl 59 _ _ rfl (w.heap.size + 1) (vC ([a0, a1, a2, a3] : List Int)) rfl rfl _ _ s2.out.o infoC9 rfl (by simp [vC, Value.oneCell']) ?_; (have sO : Hid (C3 w _ _ _ _) := s2.out.row (vC ([a0, a1, a2, a3] : List Int))); generalize World.setRow _ _ _ = WO at *)
    | (refine wpList_store_row rfl 127 _ _ rfl (w.heap.size + 1 + 1) (aV a4 false) rfl rfl _ _ sO.out.t infoAn rfl (by simp [Value.oneCell']) ?_; (have sA : Hid (C3 w _ _ _ _) := sO.out.ans (aV a4 false))))
  exact bodyPost_ret (res_ca Try.results63 _ sA.out rfl rfl rfl rfl) rfl ⟨rfl, sA.out.b⟩
set_option maxHeartbeats 1000000 in
theorem takel_d6 (a0 a1 a2 a3 a4 a5 inn : Int) : DeedR 63 ([a0, a1, a2, a3, a4, a5] : List Int) inn (([a0, a1, a2, a3, a4] : List Int), a5, false) := by
  intro w
  have huC : Hid (Try.prog.underlying 59 = _) := Try.underlying59
  have s0 : Hid (C3 w _ _ _ _) := C3.start w (vC ([a0, a1, a2, a3, a4, a5] : List Int))
  go_enter Try.func63, Try.ntmps63
  go_upto_region 1 with fail
  generalize ((w.alloc (.cells (vC ([a0, a1, a2, a3, a4, a5] : List Int)) TC)).alloc (.cells z9 TC)).alloc (.cells (aV 0 false) TA) = W at *
  have x0 : ∀ wx, (Instr.indexAt 57 (.pointer (some ⟨w.heap.size, 0, none⟩)) (.int .i64 0)).run Try.prog wx = .ok (.pointer (some ⟨w.heap.size, 0, none⟩)) wx := ix8 w.heap.size 0 (by omega)
  have x1 : ∀ wx, (Instr.indexAt 57 (.pointer (some ⟨w.heap.size, 0, none⟩)) (.int .i64 5)).run Try.prog wx = .ok (.pointer (some ⟨w.heap.size, 5, none⟩)) wx := ix8 w.heap.size 5 (by omega)
  have k8 : W.cell? ⟨w.heap.size, 8, none⟩ = some (.int .i64 6) := cell_lc (k := 8) s0.out.r rfl
  go_wp2_with (first
    | (refine wpList_puti rfl 3 _ _ rfl ⟨w.heap.size, 8, none⟩ rfl 5 rfl (by kernel_rfl) _ (cell_lc (k := 8) s0.out.r rfl) (s0.out.frz 8) fun W1 hW1 => ?_; (have s1 : Hid (C3 w W1 #[.int .i64 a0, .int .i64 a1, .int .i64 a2, .int .i64 a3, .int .i64 a4, .int .i64 a5, .int .i64 0, .int .i64 0, .int .i64 5] z9 (aV 0 false)) := by (rw [hW1]; exact s0.out.set 8 _)); clear hW1; clear s0 k8; (have k8 : W1.cell? ⟨w.heap.size, 8, none⟩ = some (.int .i64 5) := cell_lc (k := 8) s1.out.r rfl); (have km : W1.cell? ⟨w.heap.size, 5, none⟩ = some (.int .i64 a5) := cell_lc (k := 5) s1.out.r rfl))
    | (refine wpList_puti rfl 2 _ _ rfl ⟨w.heap.size, 5, none⟩ rfl 0 rfl (by kernel_rfl) _ (cell_lc (k := 5) s1.out.r rfl) (s1.out.frz 5) fun W2 hW2 => ?_; (have s2 : Hid (C3 w W2 (vC ([a0, a1, a2, a3, a4] : List Int)) z9 (aV 0 false)) := by (rw [hW2]; exact s1.out.set 5 _)); clear hW2; clear s1 k8 km)
    | (refine wpList_load_row rfl 59 _ rfl w.heap.size rfl _ _ _ _ s2.out.r huC.out rfl infoC9 ?_)
    | (refine wpList_store_row rfl 59 _ _ rfl (w.heap.size + 1) (vC ([a0, a1, a2, a3, a4] : List Int)) rfl rfl _ _ s2.out.o infoC9 rfl (by simp [vC, Value.oneCell']) ?_; (have sO : Hid (C3 w _ _ _ _) := s2.out.row (vC ([a0, a1, a2, a3, a4] : List Int))); generalize World.setRow _ _ _ = WO at *)
    | (refine wpList_store_row rfl 127 _ _ rfl (w.heap.size + 1 + 1) (aV a5 false) rfl rfl _ _ sO.out.t infoAn rfl (by simp [Value.oneCell']) ?_; (have sA : Hid (C3 w _ _ _ _) := sO.out.ans (aV a5 false))))
  exact bodyPost_ret (res_ca Try.results63 _ sA.out rfl rfl rfl rfl) rfl ⟨rfl, sA.out.b⟩
set_option maxHeartbeats 1000000 in
theorem takel_d7 (a0 a1 a2 a3 a4 a5 a6 inn : Int) : DeedR 63 ([a0, a1, a2, a3, a4, a5, a6] : List Int) inn (([a0, a1, a2, a3, a4, a5] : List Int), a6, false) := by
  intro w
  have huC : Hid (Try.prog.underlying 59 = _) := Try.underlying59
  have s0 : Hid (C3 w _ _ _ _) := C3.start w (vC ([a0, a1, a2, a3, a4, a5, a6] : List Int))
  go_enter Try.func63, Try.ntmps63
  go_upto_region 1 with fail
  generalize ((w.alloc (.cells (vC ([a0, a1, a2, a3, a4, a5, a6] : List Int)) TC)).alloc (.cells z9 TC)).alloc (.cells (aV 0 false) TA) = W at *
  have x0 : ∀ wx, (Instr.indexAt 57 (.pointer (some ⟨w.heap.size, 0, none⟩)) (.int .i64 0)).run Try.prog wx = .ok (.pointer (some ⟨w.heap.size, 0, none⟩)) wx := ix8 w.heap.size 0 (by omega)
  have x1 : ∀ wx, (Instr.indexAt 57 (.pointer (some ⟨w.heap.size, 0, none⟩)) (.int .i64 6)).run Try.prog wx = .ok (.pointer (some ⟨w.heap.size, 6, none⟩)) wx := ix8 w.heap.size 6 (by omega)
  have k8 : W.cell? ⟨w.heap.size, 8, none⟩ = some (.int .i64 7) := cell_lc (k := 8) s0.out.r rfl
  go_wp2_with (first
    | (refine wpList_puti rfl 3 _ _ rfl ⟨w.heap.size, 8, none⟩ rfl 6 rfl (by kernel_rfl) _ (cell_lc (k := 8) s0.out.r rfl) (s0.out.frz 8) fun W1 hW1 => ?_; (have s1 : Hid (C3 w W1 #[.int .i64 a0, .int .i64 a1, .int .i64 a2, .int .i64 a3, .int .i64 a4, .int .i64 a5, .int .i64 a6, .int .i64 0, .int .i64 6] z9 (aV 0 false)) := by (rw [hW1]; exact s0.out.set 8 _)); clear hW1; clear s0 k8; (have k8 : W1.cell? ⟨w.heap.size, 8, none⟩ = some (.int .i64 6) := cell_lc (k := 8) s1.out.r rfl); (have km : W1.cell? ⟨w.heap.size, 6, none⟩ = some (.int .i64 a6) := cell_lc (k := 6) s1.out.r rfl))
    | (refine wpList_puti rfl 2 _ _ rfl ⟨w.heap.size, 6, none⟩ rfl 0 rfl (by kernel_rfl) _ (cell_lc (k := 6) s1.out.r rfl) (s1.out.frz 6) fun W2 hW2 => ?_; (have s2 : Hid (C3 w W2 (vC ([a0, a1, a2, a3, a4, a5] : List Int)) z9 (aV 0 false)) := by (rw [hW2]; exact s1.out.set 6 _)); clear hW2; clear s1 k8 km)
    | (refine wpList_load_row rfl 59 _ rfl w.heap.size rfl _ _ _ _ s2.out.r huC.out rfl infoC9 ?_)
    | (refine wpList_store_row rfl 59 _ _ rfl (w.heap.size + 1) (vC ([a0, a1, a2, a3, a4, a5] : List Int)) rfl rfl _ _ s2.out.o infoC9 rfl (by simp [vC, Value.oneCell']) ?_; (have sO : Hid (C3 w _ _ _ _) := s2.out.row (vC ([a0, a1, a2, a3, a4, a5] : List Int))); generalize World.setRow _ _ _ = WO at *)
    | (refine wpList_store_row rfl 127 _ _ rfl (w.heap.size + 1 + 1) (aV a6 false) rfl rfl _ _ sO.out.t infoAn rfl (by simp [Value.oneCell']) ?_; (have sA : Hid (C3 w _ _ _ _) := sO.out.ans (aV a6 false))))
  exact bodyPost_ret (res_ca Try.results63 _ sA.out rfl rfl rfl rfl) rfl ⟨rfl, sA.out.b⟩
set_option maxHeartbeats 1000000 in
theorem takel_d8 (a0 a1 a2 a3 a4 a5 a6 a7 inn : Int) : DeedR 63 ([a0, a1, a2, a3, a4, a5, a6, a7] : List Int) inn (([a0, a1, a2, a3, a4, a5, a6] : List Int), a7, false) := by
  intro w
  have huC : Hid (Try.prog.underlying 59 = _) := Try.underlying59
  have s0 : Hid (C3 w _ _ _ _) := C3.start w (vC ([a0, a1, a2, a3, a4, a5, a6, a7] : List Int))
  go_enter Try.func63, Try.ntmps63
  go_upto_region 1 with fail
  generalize ((w.alloc (.cells (vC ([a0, a1, a2, a3, a4, a5, a6, a7] : List Int)) TC)).alloc (.cells z9 TC)).alloc (.cells (aV 0 false) TA) = W at *
  have x0 : ∀ wx, (Instr.indexAt 57 (.pointer (some ⟨w.heap.size, 0, none⟩)) (.int .i64 0)).run Try.prog wx = .ok (.pointer (some ⟨w.heap.size, 0, none⟩)) wx := ix8 w.heap.size 0 (by omega)
  have x1 : ∀ wx, (Instr.indexAt 57 (.pointer (some ⟨w.heap.size, 0, none⟩)) (.int .i64 7)).run Try.prog wx = .ok (.pointer (some ⟨w.heap.size, 7, none⟩)) wx := ix8 w.heap.size 7 (by omega)
  have k8 : W.cell? ⟨w.heap.size, 8, none⟩ = some (.int .i64 8) := cell_lc (k := 8) s0.out.r rfl
  go_wp2_with (first
    | (refine wpList_puti rfl 3 _ _ rfl ⟨w.heap.size, 8, none⟩ rfl 7 rfl (by kernel_rfl) _ (cell_lc (k := 8) s0.out.r rfl) (s0.out.frz 8) fun W1 hW1 => ?_; (have s1 : Hid (C3 w W1 #[.int .i64 a0, .int .i64 a1, .int .i64 a2, .int .i64 a3, .int .i64 a4, .int .i64 a5, .int .i64 a6, .int .i64 a7, .int .i64 7] z9 (aV 0 false)) := by (rw [hW1]; exact s0.out.set 8 _)); clear hW1; clear s0 k8; (have k8 : W1.cell? ⟨w.heap.size, 8, none⟩ = some (.int .i64 7) := cell_lc (k := 8) s1.out.r rfl); (have km : W1.cell? ⟨w.heap.size, 7, none⟩ = some (.int .i64 a7) := cell_lc (k := 7) s1.out.r rfl))
    | (refine wpList_puti rfl 2 _ _ rfl ⟨w.heap.size, 7, none⟩ rfl 0 rfl (by kernel_rfl) _ (cell_lc (k := 7) s1.out.r rfl) (s1.out.frz 7) fun W2 hW2 => ?_; (have s2 : Hid (C3 w W2 (vC ([a0, a1, a2, a3, a4, a5, a6] : List Int)) z9 (aV 0 false)) := by (rw [hW2]; exact s1.out.set 7 _)); clear hW2; clear s1 k8 km)
    | (refine wpList_load_row rfl 59 _ rfl w.heap.size rfl _ _ _ _ s2.out.r huC.out rfl infoC9 ?_)
    | (refine wpList_store_row rfl 59 _ _ rfl (w.heap.size + 1) (vC ([a0, a1, a2, a3, a4, a5, a6] : List Int)) rfl rfl _ _ s2.out.o infoC9 rfl (by simp [vC, Value.oneCell']) ?_; (have sO : Hid (C3 w _ _ _ _) := s2.out.row (vC ([a0, a1, a2, a3, a4, a5, a6] : List Int))); generalize World.setRow _ _ _ = WO at *)
    | (refine wpList_store_row rfl 127 _ _ rfl (w.heap.size + 1 + 1) (aV a7 false) rfl rfl _ _ sO.out.t infoAn rfl (by simp [Value.oneCell']) ?_; (have sA : Hid (C3 w _ _ _ _) := sO.out.ans (aV a7 false))))
  exact bodyPost_ret (res_ca Try.results63 _ sA.out rfl rfl rfl rfl) rfl ⟨rfl, sA.out.b⟩
end Go.Proofs.Ytklpifammbnldaa.pg
/- What is in a thing, and what may be done to it: what is taken out of it. -/
namespace Go.Proofs.Ytklpifammbnldaa.pg
open Go.ChangeShapes Go.WideShapes Go.ChangeAt Go.RowKit
set_option linter.unusedVariables false
set_option linter.unusedSimpArgs false
set_option maxRecDepth 100000
attribute [local go_sem ↓] Go.wp_at_zero Go.wp_at_succ
set_option maxHeartbeats 1000000 in
theorem takef_d0 (inn : Int) : DeedR 62 ([] : List Int) inn ([], 0, true) := by
  intro w
  have huC : Hid (Try.prog.underlying 59 = _) := Try.underlying59
  have s0 : Hid (C3 w _ _ _ _) := C3.start w (vC ([] : List Int))
  go_enter Try.func62, Try.ntmps62
  go_upto_region 1 with fail
  generalize ((w.alloc (.cells (vC ([] : List Int)) TC)).alloc (.cells z9 TC)).alloc (.cells (aV 0 false) TA) = W at *
  have k8 : W.cell? ⟨w.heap.size, 8, none⟩ = some (.int .i64 0) := cell_lc (k := 8) s0.out.r rfl
  go_wp2_with (first
    | (refine wpList_load_row rfl 59 _ rfl w.heap.size rfl _ _ _ _ s0.out.r huC.out rfl infoC9 ?_)
    | (refine wpList_store_row rfl 59 _ _ rfl (w.heap.size + 1) (vC []) rfl rfl _ _ s0.out.o infoC9 rfl (by simp [vC, Value.oneCell']) ?_; (have sO : Hid (C3 w _ _ _ _) := s0.out.row (vC [])); generalize World.setRow _ _ _ = WO at *)
    | (refine wpList_store_row rfl 127 _ _ rfl (w.heap.size + 1 + 1) (aV 0 true) rfl rfl _ _ sO.out.t infoAn rfl (by simp [Value.oneCell']) ?_; (have sA : Hid (C3 w _ _ _ _) := sO.out.ans (aV 0 true))))
  exact bodyPost_ret (res_ca Try.results62 _ sA.out rfl rfl rfl rfl) rfl ⟨rfl, sA.out.b⟩
set_option maxHeartbeats 1000000 in
theorem takef_d1 (a0 inn : Int) : DeedR 62 ([a0] : List Int) inn (([] : List Int), a0, false) := by
  intro w
  have huC : Hid (Try.prog.underlying 59 = _) := Try.underlying59
  have s0 : Hid (C3 w _ _ _ _) := C3.start w (vC ([a0] : List Int))
  go_enter Try.func62, Try.ntmps62
  go_upto_region 1 with fail
  generalize ((w.alloc (.cells (vC ([a0] : List Int)) TC)).alloc (.cells z9 TC)).alloc (.cells (aV 0 false) TA) = W at *
  have x0 : ∀ wx, (Instr.indexAt 57 (.pointer (some ⟨w.heap.size, 0, none⟩)) (.int .i64 0)).run Try.prog wx = .ok (.pointer (some ⟨w.heap.size, 0, none⟩)) wx := ix8 w.heap.size 0 (by omega)
  have k8 : W.cell? ⟨w.heap.size, 8, none⟩ = some (.int .i64 1) := cell_lc (k := 8) s0.out.r rfl
  have k0 : W.cell? ⟨w.heap.size, 0, none⟩ = some (.int .i64 a0) := cell_lc (k := 0) s0.out.r rfl
  go_wp2_with fail
  have s1 : Hid (C3 w W.drew (vC ([a0] : List Int)) z9 (aV 0 false)) := s0.out.later (bey_drew W)
  have hcp : Sem.run Try.prog (Builtin.copy_ #[36, 36] 3 #[.slice (some ⟨w.heap.size, 0, none⟩) 8 8, .slice (some ⟨w.heap.size, 1, none⟩) 0 7]) W.drew = .ok (.int .i64 0) W.drew := run_copy_none (P := Try.prog) W.drew 36 36 3 2 _ _ 8 8 0 7 Try.underlying36 (by kernel_rfl) rfl
  have s2 : Hid (C3 w W.drew #[.int .i64 a0, .int .i64 0, .int .i64 0, .int .i64 0, .int .i64 0, .int .i64 0, .int .i64 0, .int .i64 0, .int .i64 1] z9 (aV 0 false)) := s1.out
  have k8d : W.drew.cell? ⟨w.heap.size, 8, none⟩ = some (.int .i64 1) := cell_lc (k := 8) s1.out.r rfl
  go_region
  clear s0 s1 k8 k0
  have k8 : W.drew.cell? ⟨w.heap.size, 8, none⟩ = some (.int .i64 1) := cell_lc (k := 8) s2.out.r rfl
  go_wp2_with (first
    | (refine wpList_puti rfl 3 _ _ rfl ⟨w.heap.size, 8, none⟩ rfl 0 rfl (by kernel_rfl) _ (cell_lc (k := 8) s2.out.r rfl) (s2.out.frz 8) fun W3 hW3 => ?_; (have s3 : Hid (C3 w W3 #[.int .i64 a0, .int .i64 0, .int .i64 0, .int .i64 0, .int .i64 0, .int .i64 0, .int .i64 0, .int .i64 0, .int .i64 0] z9 (aV 0 false)) := by (rw [hW3]; exact s2.out.set 8 _)); clear hW3; clear s2 k8; (have k8 : W3.cell? ⟨w.heap.size, 8, none⟩ = some (.int .i64 0) := cell_lc (k := 8) s3.out.r rfl))
    | (refine wpList_puti rfl 2 _ _ rfl ⟨w.heap.size, 0, none⟩ rfl 0 rfl (by kernel_rfl) _ (cell_lc (k := 0) s3.out.r rfl) (s3.out.frz 0) fun W4 hW4 => ?_; (have s4 : Hid (C3 w W4 (vC ([] : List Int)) z9 (aV 0 false)) := by (rw [hW4]; exact s3.out.set 0 _)); clear hW4; clear s3 k8)
    | (refine wpList_load_row rfl 59 _ rfl w.heap.size rfl _ _ _ _ s4.out.r huC.out rfl infoC9 ?_)
    | (refine wpList_store_row rfl 59 _ _ rfl (w.heap.size + 1) (vC ([] : List Int)) rfl rfl _ _ s4.out.o infoC9 rfl (by simp [vC, Value.oneCell']) ?_; (have sO : Hid (C3 w _ _ _ _) := s4.out.row (vC ([] : List Int))); generalize World.setRow _ _ _ = WO at *)
    | (refine wpList_store_row rfl 127 _ _ rfl (w.heap.size + 1 + 1) (aV a0 false) rfl rfl _ _ sO.out.t infoAn rfl (by simp [Value.oneCell']) ?_; (have sA : Hid (C3 w _ _ _ _) := sO.out.ans (aV a0 false))))
  exact bodyPost_ret (res_ca Try.results62 _ sA.out rfl rfl rfl rfl) rfl ⟨rfl, sA.out.b⟩
set_option maxHeartbeats 1000000 in
theorem takef_d2 (a0 a1 inn : Int) : DeedR 62 ([a0, a1] : List Int) inn (([a1] : List Int), a0, false) := by
  intro w
  have huC : Hid (Try.prog.underlying 59 = _) := Try.underlying59
  have s0 : Hid (C3 w _ _ _ _) := C3.start w (vC ([a0, a1] : List Int))
  go_enter Try.func62, Try.ntmps62
  go_upto_region 1 with fail
  generalize ((w.alloc (.cells (vC ([a0, a1] : List Int)) TC)).alloc (.cells z9 TC)).alloc (.cells (aV 0 false) TA) = W at *
  have x0 : ∀ wx, (Instr.indexAt 57 (.pointer (some ⟨w.heap.size, 0, none⟩)) (.int .i64 0)).run Try.prog wx = .ok (.pointer (some ⟨w.heap.size, 0, none⟩)) wx := ix8 w.heap.size 0 (by omega)
  have x1 : ∀ wx, (Instr.indexAt 57 (.pointer (some ⟨w.heap.size, 0, none⟩)) (.int .i64 1)).run Try.prog wx = .ok (.pointer (some ⟨w.heap.size, 1, none⟩)) wx := ix8 w.heap.size 1 (by omega)
  have k8 : W.cell? ⟨w.heap.size, 8, none⟩ = some (.int .i64 2) := cell_lc (k := 8) s0.out.r rfl
  have k0 : W.cell? ⟨w.heap.size, 0, none⟩ = some (.int .i64 a0) := cell_lc (k := 0) s0.out.r rfl
  go_wp2_with fail
  have s1 : Hid (C3 w W.drew (vC ([a0, a1] : List Int)) z9 (aV 0 false)) := s0.out.later (bey_drew W)
  have hcp0 := run_copy_row (P := Try.prog) W.drew 36 36 3 2 w.heap.size 0 8 8 ⟨w.heap.size, 1, none⟩ 1 7 (vC ([a0, a1] : List Int)) TC [.int .i64 a1] Try.underlying36 (by kernel_rfl) s1.out.r rfl (fun j v hj => by (have h1 : j < 1 := by (have := (List.getElem?_eq_some_iff.mp hj).1; simpa using this)); (have h2 : j = 0 := by omega); rcases h2 with rfl <;> exact cell_lc s1.out.r (by simpa [vC] using hj)) (by simp [vC]) (by simp [Value.oneCell'])
  obtain ⟨W2, hW2⟩ : ∃ W2, W2 = W.drew.setRow w.heap.size #[.int .i64 a1, .int .i64 a1, .int .i64 0, .int .i64 0, .int .i64 0, .int .i64 0, .int .i64 0, .int .i64 0, .int .i64 2] := ⟨_, rfl⟩
  have hcp : Sem.run Try.prog (Builtin.copy_ #[36, 36] 3 #[.slice (some ⟨w.heap.size, 0, none⟩) 8 8, .slice (some ⟨w.heap.size, 1, none⟩) 1 7]) W.drew = .ok (.int .i64 1) W2 := by rw [hW2]; exact hcp0
  have s2 : Hid (C3 w W2 #[.int .i64 a1, .int .i64 a1, .int .i64 0, .int .i64 0, .int .i64 0, .int .i64 0, .int .i64 0, .int .i64 0, .int .i64 2] z9 (aV 0 false)) := by (rw [hW2]; exact s1.out.setR #[.int .i64 a1, .int .i64 a1, .int .i64 0, .int .i64 0, .int .i64 0, .int .i64 0, .int .i64 0, .int .i64 0, .int .i64 2])
  clear hW2 hcp0
  have k8d : W.drew.cell? ⟨w.heap.size, 8, none⟩ = some (.int .i64 2) := cell_lc (k := 8) s1.out.r rfl
  go_region
  clear s0 s1 k8 k0
  have k8 : W2.cell? ⟨w.heap.size, 8, none⟩ = some (.int .i64 2) := cell_lc (k := 8) s2.out.r rfl
  go_wp2_with (first
    | (refine wpList_puti rfl 3 _ _ rfl ⟨w.heap.size, 8, none⟩ rfl 1 rfl (by kernel_rfl) _ (cell_lc (k := 8) s2.out.r rfl) (s2.out.frz 8) fun W3 hW3 => ?_; (have s3 : Hid (C3 w W3 #[.int .i64 a1, .int .i64 a1, .int .i64 0, .int .i64 0, .int .i64 0, .int .i64 0, .int .i64 0, .int .i64 0, .int .i64 1] z9 (aV 0 false)) := by (rw [hW3]; exact s2.out.set 8 _)); clear hW3; clear s2 k8; (have k8 : W3.cell? ⟨w.heap.size, 8, none⟩ = some (.int .i64 1) := cell_lc (k := 8) s3.out.r rfl))
    | (refine wpList_puti rfl 2 _ _ rfl ⟨w.heap.size, 1, none⟩ rfl 0 rfl (by kernel_rfl) _ (cell_lc (k := 1) s3.out.r rfl) (s3.out.frz 1) fun W4 hW4 => ?_; (have s4 : Hid (C3 w W4 (vC ([a1] : List Int)) z9 (aV 0 false)) := by (rw [hW4]; exact s3.out.set 1 _)); clear hW4; clear s3 k8)
    | (refine wpList_load_row rfl 59 _ rfl w.heap.size rfl _ _ _ _ s4.out.r huC.out rfl infoC9 ?_)
    | (refine wpList_store_row rfl 59 _ _ rfl (w.heap.size + 1) (vC ([a1] : List Int)) rfl rfl _ _ s4.out.o infoC9 rfl (by simp [vC, Value.oneCell']) ?_; (have sO : Hid (C3 w _ _ _ _) := s4.out.row (vC ([a1] : List Int))); generalize World.setRow _ _ _ = WO at *)
    | (refine wpList_store_row rfl 127 _ _ rfl (w.heap.size + 1 + 1) (aV a0 false) rfl rfl _ _ sO.out.t infoAn rfl (by simp [Value.oneCell']) ?_; (have sA : Hid (C3 w _ _ _ _) := sO.out.ans (aV a0 false))))
  exact bodyPost_ret (res_ca Try.results62 _ sA.out rfl rfl rfl rfl) rfl ⟨rfl, sA.out.b⟩
set_option maxHeartbeats 1000000 in
theorem takef_d3 (a0 a1 a2 inn : Int) : DeedR 62 ([a0, a1, a2] : List Int) inn (([a1, a2] : List Int), a0, false) := by
  intro w
  have huC : Hid (Try.prog.underlying 59 = _) := Try.underlying59
  have s0 : Hid (C3 w _ _ _ _) := C3.start w (vC ([a0, a1, a2] : List Int))
  go_enter Try.func62, Try.ntmps62
  go_upto_region 1 with fail
  generalize ((w.alloc (.cells (vC ([a0, a1, a2] : List Int)) TC)).alloc (.cells z9 TC)).alloc (.cells (aV 0 false) TA) = W at *
  have x0 : ∀ wx, (Instr.indexAt 57 (.pointer (some ⟨w.heap.size, 0, none⟩)) (.int .i64 0)).run Try.prog wx = .ok (.pointer (some ⟨w.heap.size, 0, none⟩)) wx := ix8 w.heap.size 0 (by omega)
  have x1 : ∀ wx, (Instr.indexAt 57 (.pointer (some ⟨w.heap.size, 0, none⟩)) (.int .i64 2)).run Try.prog wx = .ok (.pointer (some ⟨w.heap.size, 2, none⟩)) wx := ix8 w.heap.size 2 (by omega)
  have k8 : W.cell? ⟨w.heap.size, 8, none⟩ = some (.int .i64 3) := cell_lc (k := 8) s0.out.r rfl
  have k0 : W.cell? ⟨w.heap.size, 0, none⟩ = some (.int .i64 a0) := cell_lc (k := 0) s0.out.r rfl
  go_wp2_with fail
  have s1 : Hid (C3 w W.drew (vC ([a0, a1, a2] : List Int)) z9 (aV 0 false)) := s0.out.later (bey_drew W)
  have hcp0 := run_copy_row (P := Try.prog) W.drew 36 36 3 2 w.heap.size 0 8 8 ⟨w.heap.size, 1, none⟩ 2 7 (vC ([a0, a1, a2] : List Int)) TC [.int .i64 a1, .int .i64 a2] Try.underlying36 (by kernel_rfl) s1.out.r rfl (fun j v hj => by (have h1 : j < 2 := by (have := (List.getElem?_eq_some_iff.mp hj).1; simpa using this)); (have h2 : j = 0 ∨ j = 1 := by omega); rcases h2 with rfl | rfl <;> exact cell_lc s1.out.r (by simpa [vC] using hj)) (by simp [vC]) (by simp [Value.oneCell'])
  obtain ⟨W2, hW2⟩ : ∃ W2, W2 = W.drew.setRow w.heap.size #[.int .i64 a1, .int .i64 a2, .int .i64 a2, .int .i64 0, .int .i64 0, .int .i64 0, .int .i64 0, .int .i64 0, .int .i64 3] := ⟨_, rfl⟩
  have hcp : Sem.run Try.prog (Builtin.copy_ #[36, 36] 3 #[.slice (some ⟨w.heap.size, 0, none⟩) 8 8, .slice (some ⟨w.heap.size, 1, none⟩) 2 7]) W.drew = .ok (.int .i64 2) W2 := by rw [hW2]; exact hcp0
  have s2 : Hid (C3 w W2 #[.int .i64 a1, .int .i64 a2, .int .i64 a2, .int .i64 0, .int .i64 0, .int .i64 0, .int .i64 0, .int .i64 0, .int .i64 3] z9 (aV 0 false)) := by (rw [hW2]; exact s1.out.setR #[.int .i64 a1, .int .i64 a2, .int .i64 a2, .int .i64 0, .int .i64 0, .int .i64 0, .int .i64 0, .int .i64 0, .int .i64 3])
  clear hW2 hcp0
  have k8d : W.drew.cell? ⟨w.heap.size, 8, none⟩ = some (.int .i64 3) := cell_lc (k := 8) s1.out.r rfl
  go_region
  clear s0 s1 k8 k0
  have k8 : W2.cell? ⟨w.heap.size, 8, none⟩ = some (.int .i64 3) := cell_lc (k := 8) s2.out.r rfl
  go_wp2_with (first
    | (refine wpList_puti rfl 3 _ _ rfl ⟨w.heap.size, 8, none⟩ rfl 2 rfl (by kernel_rfl) _ (cell_lc (k := 8) s2.out.r rfl) (s2.out.frz 8) fun W3 hW3 => ?_; (have s3 : Hid (C3 w W3 #[.int .i64 a1, .int .i64 a2, .int .i64 a2, .int .i64 0, .int .i64 0, .int .i64 0, .int .i64 0, .int .i64 0, .int .i64 2] z9 (aV 0 false)) := by (rw [hW3]; exact s2.out.set 8 _)); clear hW3; clear s2 k8; (have k8 : W3.cell? ⟨w.heap.size, 8, none⟩ = some (.int .i64 2) := cell_lc (k := 8) s3.out.r rfl))
    | (refine wpList_puti rfl 2 _ _ rfl ⟨w.heap.size, 2, none⟩ rfl 0 rfl (by kernel_rfl) _ (cell_lc (k := 2) s3.out.r rfl) (s3.out.frz 2) fun W4 hW4 => ?_; (have s4 : Hid (C3 w W4 (vC ([a1, a2] : List Int)) z9 (aV 0 false)) := by (rw [hW4]; exact s3.out.set 2 _)); clear hW4; clear s3 k8)
    | (refine wpList_load_row rfl 59 _ rfl w.heap.size rfl _ _ _ _ s4.out.r huC.out rfl infoC9 ?_)
    | (refine wpList_store_row rfl 59 _ _ rfl (w.heap.size + 1) (vC ([a1, a2] : List Int)) rfl rfl _ _ s4.out.o infoC9 rfl (by simp [vC, Value.oneCell']) ?_; (have sO : Hid (C3 w _ _ _ _) := s4.out.row (vC ([a1, a2] : List Int))); generalize World.setRow _ _ _ = WO at *)
    | (refine wpList_store_row rfl 127 _ _ rfl (w.heap.size + 1 + 1) (aV a0 false) rfl rfl _ _ sO.out.t infoAn rfl (by simp [Value.oneCell']) ?_; (have sA : Hid (C3 w _ _ _ _) := sO.out.ans (aV a0 false))))
  exact bodyPost_ret (res_ca Try.results62 _ sA.out rfl rfl rfl rfl) rfl ⟨rfl, sA.out.b⟩
set_option maxHeartbeats 1000000 in
theorem takef_d4 (a0 a1 a2 a3 inn : Int) : DeedR 62 ([a0, a1, a2, a3] : List Int) inn (([a1, a2, a3] : List Int), a0, false) := by
  intro w
  have huC : Hid (Try.prog.underlying 59 = _) := Try.underlying59
  have s0 : Hid (C3 w _ _ _ _) := C3.start w (vC ([a0, a1, a2, a3] : List Int))
  go_enter Try.func62, Try.ntmps62
  go_upto_region 1 with fail
  generalize ((w.alloc (.cells (vC ([a0, a1, a2, a3] : List Int)) TC)).alloc (.cells z9 TC)).alloc (.cells (aV 0 false) TA) = W at *
  have x0 : ∀ wx, (Instr.indexAt 57 (.pointer (some ⟨w.heap.size, 0, none⟩)) (.int .i64 0)).run Try.prog wx = .ok (.pointer (some ⟨w.heap.size, 0, none⟩)) wx := ix8 w.heap.size 0 (by omega)
  have x1 : ∀ wx, (Instr.indexAt 57 (.pointer (some ⟨w.heap.size, 0, none⟩)) (.int .i64 3)).run Try.prog wx = .ok (.pointer (some ⟨w.heap.size, 3, none⟩)) wx := ix8 w.heap.size 3 (by omega)
  have k8 : W.cell? ⟨w.heap.size, 8, none⟩ = some (.int .i64 4) := cell_lc (k := 8) s0.out.r rfl
  have k0 : W.cell? ⟨w.heap.size, 0, none⟩ = some (.int .i64 a0) := cell_lc (k := 0) s0.out.r rfl
  go_wp2_with fail
  have s1 : Hid (C3 w W.drew (vC ([a0, a1, a2, a3] : List Int)) z9 (aV 0 false)) := s0.out.later (bey_drew W)
  have hcp0 := run_copy_row (P := Try.prog) W.drew 36 36 3 2 w.heap.size 0 8 8 ⟨w.heap.size, 1, none⟩ 3 7 (vC ([a0, a1, a2, a3] : List Int)) TC [.int .i64 a1, .int .i64 a2, .int .i64 a3] Try.underlying36 (by kernel_rfl) s1.out.r rfl (fun j v hj => by (have h1 : j < 3 := by (have := (List.getElem?_eq_some_iff.mp hj).1; simpa using this)); (have h2 : j = 0 ∨ j = 1 ∨ j = 2 := by omega); rcases h2 with rfl | rfl | rfl <;> exact cell_lc s1.out.r (by simpa [vC] using hj)) (by simp [vC]) (by simp [Value.oneCell'])
  obtain ⟨W2, hW2⟩ : ∃ W2, W2 = W.drew.setRow w.heap.size #[.int .i64 a1, .int .i64 a2, .int .i64 a3, .int .i64 a3, .int .i64 0, .int .i64 0, .int .i64 0, .int .i64 0, .int .i64 4] := ⟨_, rfl⟩
  have hcp : Sem.run Try.prog (Builtin.copy_ #[36, 36] 3 #[.slice (some ⟨w.heap.size, 0, none⟩) 8 8, .slice (some ⟨w.heap.size, 1, none⟩) 3 7]) W.drew = .ok (.int .i64 3) W2 := by rw [hW2]; exact hcp0
  have s2 : Hid (C3 w W2 #[.int .i64 a1, .int .i64 a2, .int .i64 a3, .int .i64 a3, .int .i64 0, .int .i64 0, .int .i64 0, .int .i64 0, .int .i64 4] z9 (aV 0 false)) := by (rw [hW2]; exact s1.out.setR #[.int .i64 a1, .int .i64 a2, .int .i64 a3, .int .i64 a3, .int .i64 0, .int .i64 0, .int .i64 0, .int .i64 0, .int .i64 4])
  clear hW2 hcp0
  have k8d : W.drew.cell? ⟨w.heap.size, 8, none⟩ = some (.int .i64 4) := cell_lc (k := 8) s1.out.r rfl
  go_region
  clear s0 s1 k8 k0
  have k8 : W2.cell? ⟨w.heap.size, 8, none⟩ = some (.int .i64 4) := cell_lc (k := 8) s2.out.r rfl
  go_wp2_with (first
    | (refine wpList_puti rfl 3 _ _ rfl ⟨w.heap.size, 8, none⟩ rfl 3 rfl (by kernel_rfl) _ (cell_lc (k := 8) s2.out.r rfl) (s2.out.frz 8) fun W3 hW3 => ?_; (have s3 : Hid (C3 w W3 #[.int .i64 a1, .int .i64 a2, .int .i64 a3, .int .i64 a3, .int .i64 0, .int .i64 0, .int .i64 0, .int .i64 0, .int .i64 3] z9 (aV 0 false)) := by (rw [hW3]; exact s2.out.set 8 _)); clear hW3; clear s2 k8; (have k8 : W3.cell? ⟨w.heap.size, 8, none⟩ = some (.int .i64 3) := cell_lc (k := 8) s3.out.r rfl))
    | (refine wpList_puti rfl 2 _ _ rfl ⟨w.heap.size, 3, none⟩ rfl 0 rfl (by kernel_rfl) _ (cell_lc (k := 3) s3.out.r rfl) (s3.out.frz 3) fun W4 hW4 => ?_; (have s4 : Hid (C3 w W4 (vC ([a1, a2, a3] : List Int)) z9 (aV 0 false)) := by (rw [hW4]; exact s3.out.set 3 _)); clear hW4; clear s3 k8)
    | (refine wpList_load_row rfl 59 _ rfl w.heap.size rfl _ _ _ _ s4.out.r huC.out rfl infoC9 ?_)
    | (refine wpList_store_row rfl 59 _ _ rfl (w.heap.size + 1) (vC ([a1, a2, a3] : List Int)) rfl rfl _ _ s4.out.o infoC9 rfl (by simp [vC, Value.oneCell']) ?_; (have sO : Hid (C3 w _ _ _ _) := s4.out.row (vC ([a1, a2, a3] : List Int))); generalize World.setRow _ _ _ = WO at *)
    | (refine wpList_store_row rfl 127 _ _ rfl (w.heap.size + 1 + 1) (aV a0 false) rfl rfl _ _ sO.out.t infoAn rfl (by simp [Value.oneCell']) ?_; (have sA : Hid (C3 w _ _ _ _) := sO.out.ans (aV a0 false))))
  exact bodyPost_ret (res_ca Try.results62 _ sA.out rfl rfl rfl rfl) rfl ⟨rfl, sA.out.b⟩
set_option maxHeartbeats 1000000 in
theorem takef_d5 (a0 a1 a2 a3 a4 inn : Int) : DeedR 62 ([a0, a1, a2, a3, a4] : List Int) inn (([a1, a2, a3, a4] : List Int), a0, false) := by
  intro w
  have huC : Hid (Try.prog.underlying 59 = _) := Try.underlying59
  have s0 : Hid (C3 w _ _ _ _) := C3.start w (vC ([a0, a1, a2, a3, a4] : List Int))
  go_enter Try.func62, Try.ntmps62
  go_upto_region 1 with fail
  generalize ((w.alloc (.cells (vC ([a0, a1, a2, a3, a4] : List Int)) TC)).alloc (.cells z9 TC)).alloc (.cells (aV 0 false) TA) = W at *
  have x0 : ∀ wx, (Instr.indexAt 57 (.pointer (some ⟨w.heap.size, 0, none⟩)) (.int .i64 0)).run Try.prog wx = .ok (.pointer (some ⟨w.heap.size, 0, none⟩)) wx := ix8 w.heap.size 0 (by omega)
  have x1 : ∀ wx, (Instr.indexAt 57 (.pointer (some ⟨w.heap.size, 0, none⟩)) (.int .i64 4)).run Try.prog wx = .ok (.pointer (some ⟨w.heap.size, 4, none⟩)) wx := ix8 w.heap.size 4 (by omega)
  have k8 : W.cell? ⟨w.heap.size, 8, none⟩ = some (.int .i64 5) := cell_lc (k := 8) s0.out.r rfl
  have k0 : W.cell? ⟨w.heap.size, 0, none⟩ = some (.int .i64 a0) := cell_lc (k := 0) s0.out.r rfl
  go_wp2_with fail
  have s1 : Hid (C3 w W.drew (vC ([a0, a1, a2, a3, a4] : List Int)) z9 (aV 0 false)) := s0.out.later (bey_drew W)
  have hcp0 := run_copy_row (P := Try.prog) W.drew 36 36 3 2 w.heap.size 0 8 8 ⟨w.heap.size, 1, none⟩ 4 7 (vC ([a0, a1, a2, a3, a4] : List Int)) TC [.int .i64 a1, .int .i64 a2, .int .i64 a3, .int .i64 a4] Try.underlying36 (by kernel_rfl) s1.out.r rfl (fun j v hj => by (have h1 : j < 4 := by (have := (List.getElem?_eq_some_iff.mp hj).1; simpa using this)); (have h2 : j = 0 ∨ j = 1 ∨ j = 2 ∨ j = 3 := by omega); rcases h2 with rfl | rfl | rfl | rfl <;> exact cell_lc s1.out.r (by simpa [vC] using hj)) (by simp [vC]) (by simp [Value.oneCell'])
  obtain ⟨W2, hW2⟩ : ∃ W2, W2 = W.drew.setRow w.heap.size #[.int .i64 a1, .int .i64 a2, .int .i64 a3, .int .i64 a4, .int .i64 a4, .int .i64 0, .int .i64 0, .int .i64 0, .int .i64 5] := ⟨_, rfl⟩
  have hcp : Sem.run Try.prog (Builtin.copy_ #[36, 36] 3 #[.slice (some ⟨w.heap.size, 0, none⟩) 8 8, .slice (some ⟨w.heap.size, 1, none⟩) 4 7]) W.drew = .ok (.int .i64 4) W2 := by rw [hW2]; exact hcp0
  have s2 : Hid (C3 w W2 #[.int .i64 a1, .int .i64 a2, .int .i64 a3, .int .i64 a4, .int .i64 a4, .int .i64 0, .int .i64 0, .int .i64 0, .int .i64 5] z9 (aV 0 false)) := by (rw [hW2]; exact s1.out.setR #[.int .i64 a1, .int .i64 a2, .int .i64 a3, .int .i64 a4, .int .i64 a4, .int .i64 0, .int .i64 0, .int .i64 0, .int .i64 5])
  clear hW2 hcp0
  have k8d : W.drew.cell? ⟨w.heap.size, 8, none⟩ = some (.int .i64 5) := cell_lc (k := 8) s1.out.r rfl
  go_region
  clear s0 s1 k8 k0
  have k8 : W2.cell? ⟨w.heap.size, 8, none⟩ = some (.int .i64 5) := cell_lc (k := 8) s2.out.r rfl
  go_wp2_with (first
    | (refine wpList_puti rfl 3 _ _ rfl ⟨w.heap.size, 8, none⟩ rfl 4 rfl (by kernel_rfl) _ (cell_lc (k := 8) s2.out.r rfl) (s2.out.frz 8) fun W3 hW3 => ?_; (have s3 : Hid (C3 w W3 #[.int .i64 a1, .int .i64 a2, .int .i64 a3, .int .i64 a4, .int .i64 a4, .int .i64 0, .int .i64 0, .int .i64 0, .int .i64 4] z9 (aV 0 false)) := by (rw [hW3]; exact s2.out.set 8 _)); clear hW3; clear s2 k8; (have k8 : W3.cell? ⟨w.heap.size, 8, none⟩ = some (.int .i64 4) := cell_lc (k := 8) s3.out.r rfl))
    | (refine wpList_puti rfl 2 _ _ rfl ⟨w.heap.size, 4, none⟩ rfl 0 rfl (by kernel_rfl) _ (cell_lc (k := 4) s3.out.r rfl) (s3.out.frz 4) fun W4 hW4 => ?_; (have s4 : Hid (C3 w W4 (vC ([a1, a2, a3, a4] : List Int)) z9 (aV 0 false)) := by (rw [hW4]; exact s3.out.set 4 _)); clear hW4; clear s3 k8)
    | (refine wpList_load_row rfl 59 _ rfl w.heap.size rfl _ _ _ _ s4.out.r huC.out rfl infoC9 ?_)
    | (refine wpList_store_row rfl 59 _ _ rfl (w.heap.size + 1) (vC ([a1, a2, a3, a4] : List Int)) rfl rfl _ _ s4.out.o infoC9 rfl (by simp [vC, Value.oneCell']) ?_; (have sO : Hid (C3 w _ _ _ _) := s4.out.row (vC ([a1, a2, a3, a4] : List Int))); generalize World.setRow _ _ _ = WO at *)
    | (refine wpList_store_row rfl 127 _ _ rfl (w.heap.size + 1 + 1) (aV a0 false) rfl rfl _ _ sO.out.t infoAn rfl (by simp [Value.oneCell']) ?_; (have sA : Hid (C3 w _ _ _ _) := sO.out.ans (aV a0 false))))
  exact bodyPost_ret (res_ca Try.results62 _ sA.out rfl rfl rfl rfl) rfl ⟨rfl, sA.out.b⟩
set_option maxHeartbeats 1000000 in
theorem takef_d6 (a0 a1 a2 a3 a4 a5 inn : Int) : DeedR 62 ([a0, a1, a2, a3, a4, a5] : List Int) inn (([a1, a2, a3, a4, a5] : List Int), a0, false) := by
  intro w
  have huC : Hid (Try.prog.underlying 59 = _) := Try.underlying59
  have s0 : Hid (C3 w _ _ _ _) := C3.start w (vC ([a0, a1, a2, a3, a4, a5] : List Int))
  go_enter Try.func62, Try.ntmps62
  go_upto_region 1 with fail
  generalize ((w.alloc (.cells (vC ([a0, a1, a2, a3, a4, a5] : List Int)) TC)).alloc (.cells z9 TC)).alloc (.cells (aV 0 false) TA) = W at *
  have x0 : ∀ wx, (Instr.indexAt 57 (.pointer (some ⟨w.heap.size, 0, none⟩)) (.int .i64 0)).run Try.prog wx = .ok (.pointer (some ⟨w.heap.size, 0, none⟩)) wx := ix8 w.heap.size 0 (by omega)
  have x1 : ∀ wx, (Instr.indexAt 57 (.pointer (some ⟨w.heap.size, 0, none⟩)) (.int .i64 5)).run Try.prog wx = .ok (.pointer (some ⟨w.heap.size, 5, none⟩)) wx := ix8 w.heap.size 5 (by omega)
  have k8 : W.cell? ⟨w.heap.size, 8, none⟩ = some (.int .i64 6) := cell_lc (k := 8) s0.out.r rfl
  have k0 : W.cell? ⟨w.heap.size, 0, none⟩ = some (.int .i64 a0) := cell_lc (k := 0) s0.out.r rfl
  go_wp2_with fail
  have s1 : Hid (C3 w W.drew (vC ([a0, a1, a2, a3, a4, a5] : List Int)) z9 (aV 0 false)) := s0.out.later (bey_drew W)
  have hcp0 := run_copy_row (P := Try.prog) W.drew 36 36 3 2 w.heap.size 0 8 8 ⟨w.heap.size, 1, none⟩ 5 7 (vC ([a0, a1, a2, a3, a4, a5] : List Int)) TC [.int .i64 a1, .int .i64 a2, .int .i64 a3, .int .i64 a4, .int .i64 a5] Try.underlying36 (by kernel_rfl) s1.out.r rfl (fun j v hj => by (have h1 : j < 5 := by (have := (List.getElem?_eq_some_iff.mp hj).1; simpa using this)); (have h2 : j = 0 ∨ j = 1 ∨ j = 2 ∨ j = 3 ∨ j = 4 := by omega); rcases h2 with rfl | rfl | rfl | rfl | rfl <;> exact cell_lc s1.out.r (by simpa [vC] using hj)) (by simp [vC]) (by simp [Value.oneCell'])
  obtain ⟨W2, hW2⟩ : ∃ W2, W2 = W.drew.setRow w.heap.size #[.int .i64 a1, .int .i64 a2, .int .i64 a3, .int .i64 a4, .int .i64 a5, .int .i64 a5, .int .i64 0, .int .i64 0, .int .i64 6] := ⟨_, rfl⟩
  have hcp : Sem.run Try.prog (Builtin.copy_ #[36, 36] 3 #[.slice (some ⟨w.heap.size, 0, none⟩) 8 8, .slice (some ⟨w.heap.size, 1, none⟩) 5 7]) W.drew = .ok (.int .i64 5) W2 := by rw [hW2]; exact hcp0
  have s2 : Hid (C3 w W2 #[.int .i64 a1, .int .i64 a2, .int .i64 a3, .int .i64 a4, .int .i64 a5, .int .i64 a5, .int .i64 0, .int .i64 0, .int .i64 6] z9 (aV 0 false)) := by (rw [hW2]; exact s1.out.setR #[.int .i64 a1, .int .i64 a2, .int .i64 a3, .int .i64 a4, .int .i64 a5, .int .i64 a5, .int .i64 0, .int .i64 0, .int .i64 6])
  clear hW2 hcp0
  have k8d : W.drew.cell? ⟨w.heap.size, 8, none⟩ = some (.int .i64 6) := cell_lc (k := 8) s1.out.r rfl
  go_region
  clear s0 s1 k8 k0
  have k8 : W2.cell? ⟨w.heap.size, 8, none⟩ = some (.int .i64 6) := cell_lc (k := 8) s2.out.r rfl
  go_wp2_with (first
    | (refine wpList_puti rfl 3 _ _ rfl ⟨w.heap.size, 8, none⟩ rfl 5 rfl (by kernel_rfl) _ (cell_lc (k := 8) s2.out.r rfl) (s2.out.frz 8) fun W3 hW3 => ?_; (have s3 : Hid (C3 w W3 #[.int .i64 a1, .int .i64 a2, .int .i64 a3, .int .i64 a4, .int .i64 a5, .int .i64 a5, .int .i64 0, .int .i64 0, .int .i64 5] z9 (aV 0 false)) := by (rw [hW3]; exact s2.out.set 8 _)); clear hW3; clear s2 k8; (have k8 : W3.cell? ⟨w.heap.size, 8, none⟩ = some (.int .i64 5) := cell_lc (k := 8) s3.out.r rfl))
    | (refine wpList_puti rfl 2 _ _ rfl ⟨w.heap.size, 5, none⟩ rfl 0 rfl (by kernel_rfl) _ (cell_lc (k := 5) s3.out.r rfl) (s3.out.frz 5) fun W4 hW4 => ?_; (have s4 : Hid (C3 w W4 (vC ([a1, a2, a3, a4, a5] : List Int)) z9 (aV 0 false)) := by (rw [hW4]; exact s3.out.set 5 _)); clear hW4; clear s3 k8)
    | (refine wpList_load_row rfl 59 _ rfl w.heap.size rfl _ _ _ _ s4.out.r huC.out rfl infoC9 ?_)
    | (refine wpList_store_row rfl 59 _ _ rfl (w.heap.size + 1) (vC ([a1, a2, a3, a4, a5] : List Int)) rfl rfl _ _ s4.out.o infoC9 rfl (by simp [vC, Value.oneCell']) ?_; (have sO : Hid (C3 w _ _ _ _) := s4.out.row (vC ([a1, a2, a3, a4, a5] : List Int))); generalize World.setRow _ _ _ = WO at *)
    | (refine wpList_store_row rfl 127 _ _ rfl (w.heap.size + 1 + 1) (aV a0 false) rfl rfl _ _ sO.out.t infoAn rfl (by simp [Value.oneCell']) ?_; (have sA : Hid (C3 w _ _ _ _) := sO.out.ans (aV a0 false))))
  exact bodyPost_ret (res_ca Try.results62 _ sA.out rfl rfl rfl rfl) rfl ⟨rfl, sA.out.b⟩
set_option maxHeartbeats 1000000 in
theorem takef_d7 (a0 a1 a2 a3 a4 a5 a6 inn : Int) : DeedR 62 ([a0, a1, a2, a3, a4, a5, a6] : List Int) inn (([a1, a2, a3, a4, a5, a6] : List Int), a0, false) := by
  intro w
  have huC : Hid (Try.prog.underlying 59 = _) := Try.underlying59
  have s0 : Hid (C3 w _ _ _ _) := C3.start w (vC ([a0, a1, a2, a3, a4, a5, a6] : List Int))
  go_enter Try.func62, Try.ntmps62
  go_upto_region 1 with fail
  generalize ((w.alloc (.cells (vC ([a0, a1, a2, a3, a4, a5, a6] : List Int)) TC)).alloc (.cells z9 TC)).alloc (.cells (aV 0 false) TA) = W at *
  have x0 : ∀ wx, (Instr.indexAt 57 (.pointer (some ⟨w.heap.size, 0, none⟩)) (.int .i64 0)).run Try.prog wx = .ok (.pointer (some ⟨w.heap.size, 0, none⟩)) wx := ix8 w.heap.size 0 (by omega)
  have x1 : ∀ wx, (Instr.indexAt 57 (.pointer (some ⟨w.heap.size, 0, none⟩)) (.int .i64 6)).run Try.prog wx = .ok (.pointer (some ⟨w.heap.size, 6, none⟩)) wx := ix8 w.heap.size 6 (by omega)
  have k8 : W.cell? ⟨w.heap.size, 8, none⟩ = some (.int .i64 7) := cell_lc (k := 8) s0.out.r rfl
  have k0 : W.cell? ⟨w.heap.size, 0, none⟩ = some (.int .i64 a0) := cell_lc (k := 0) s0.out.r rfl
  go_wp2_with fail
  have s1 : Hid (C3 w W.drew (vC ([a0, a1, a2, a3, a4, a5, a6] : List Int)) z9 (aV 0 false)) := s0.out.later (bey_drew W)
  have hcp0 := run_copy_row (P := Try.prog) W.drew 36 36 3 2 w.heap.size 0 8 8 ⟨w.heap.size, 1, none⟩ 6 7 (vC ([a0, a1, a2, a3, a4, a5, a6] : List Int)) TC [.int .i64 a1, .int .i64 a2, .int .i64 a3, .int .i64 a4, .int .i64 a5, .int .i64 a6] Try.underlying36 (by kernel_rfl) s1.out.r rfl (fun j v hj => by (have h1 : j < 6 := by (have := (List.getElem?_eq_some_iff.mp hj).1; simpa using this)); (have h2 : j = 0 ∨ j = 1 ∨ j = 2 ∨ j = 3 ∨ j = 4 ∨ j = 5 := by omega); rcases h2 with rfl | rfl | rfl | rfl | rfl | rfl <;> exact cell_lc s1.out.r (by simpa [vC] using hj)) (by simp [vC]) (by simp [Value.oneCell'])
  obtain ⟨W2, hW2⟩ : ∃ W2, W2 = W.drew.setRow w.heap.size #[.int .i64 a1, .int .i64 a2, .int .i64 a3, .int .i64 a4, .int .i64 a5, .int .i64 a6, .int .i64 a6, .int .i64 0, .int .i64 7] := ⟨_, rfl⟩
  have hcp : Sem.run Try.prog (Builtin.copy_ #[36, 36] 3 #[.slice (some ⟨w.heap.size, 0, none⟩) 8 8, .slice (some ⟨w.heap.size, 1, none⟩) 6 7]) W.drew = .ok (.int .i64 6) W2 := by rw [hW2]; exact hcp0
  have s2 : Hid (C3 w W2 #[.int .i64 a1, .int .i64 a2, .int .i64 a3, .int .i64 a4, .int .i64 a5, .int .i64 a6, .int .i64 a6, .int .i64 0, .int .i64 7] z9 (aV 0 false)) := by (rw [hW2]; exact s1.out.setR #[.int .i64 a1, .int .i64 a2, .int .i64 a3, .int .i64 a4, .int .i64 a5, .int .i64 a6, .int .i64 a6, .int .i64 0, .int .i64 7])
  clear hW2 hcp0
  have k8d : W.drew.cell? ⟨w.heap.size, 8, none⟩ = some (.int .i64 7) := cell_lc (k := 8) s1.out.r rfl
  go_region
  clear s0 s1 k8 k0
  have k8 : W2.cell? ⟨w.heap.size, 8, none⟩ = some (.int .i64 7) := cell_lc (k := 8) s2.out.r rfl
  go_wp2_with (first
    | (refine wpList_puti rfl 3 _ _ rfl ⟨w.heap.size, 8, none⟩ rfl 6 rfl (by kernel_rfl) _ (cell_lc (k := 8) s2.out.r rfl) (s2.out.frz 8) fun W3 hW3 => ?_; (have s3 : Hid (C3 w W3 #[.int .i64 a1, .int .i64 a2, .int .i64 a3, .int .i64 a4, .int .i64 a5, .int .i64 a6, .int .i64 a6, .int .i64 0, .int .i64 6] z9 (aV 0 false)) := by (rw [hW3]; exact s2.out.set 8 _)); clear hW3; clear s2 k8; (have k8 : W3.cell? ⟨w.heap.size, 8, none⟩ = some (.int .i64 6) := cell_lc (k := 8) s3.out.r rfl))
    | (refine wpList_puti rfl 2 _ _ rfl ⟨w.heap.size, 6, none⟩ rfl 0 rfl (by kernel_rfl) _ (cell_lc (k := 6) s3.out.r rfl) (s3.out.frz 6) fun W4 hW4 => ?_; (have s4 : Hid (C3 w W4 (vC ([a1, a2, a3, a4, a5, a6] : List Int)) z9 (aV 0 false)) := by (rw [hW4]; exact s3.out.set 6 _)); clear hW4; clear s3 k8)
    | (refine wpList_load_row rfl 59 _ rfl w.heap.size rfl _ _ _ _ s4.out.r huC.out rfl infoC9 ?_)
    | (refine wpList_store_row rfl 59 _ _ rfl (w.heap.size + 1) (vC ([a1, a2, a3, a4, a5, a6] : List Int)) rfl rfl _ _ s4.out.o infoC9 rfl (by simp [vC, Value.oneCell']) ?_; (have sO : Hid (C3 w _ _ _ _) := s4.out.row (vC ([a1, a2, a3, a4, a5, a6] : List Int))); generalize World.setRow _ _ _ = WO at *)
    | (refine wpList_store_row rfl 127 _ _ rfl (w.heap.size + 1 + 1) (aV a0 false) rfl rfl _ _ sO.out.t infoAn rfl (by simp [Value.oneCell']) ?_; (have sA : Hid (C3 w _ _ _ _) := sO.out.ans (aV a0 false))))
  exact bodyPost_ret (res_ca Try.results62 _ sA.out rfl rfl rfl rfl) rfl ⟨rfl, sA.out.b⟩
set_option maxHeartbeats 1000000 in
theorem takef_d8 (a0 a1 a2 a3 a4 a5 a6 a7 inn : Int) : DeedR 62 ([a0, a1, a2, a3, a4, a5, a6, a7] : List Int) inn (([a1, a2, a3, a4, a5, a6, a7] : List Int), a0, false) := by
  intro w
  have huC : Hid (Try.prog.underlying 59 = _) := Try.underlying59
  have s0 : Hid (C3 w _ _ _ _) := C3.start w (vC ([a0, a1, a2, a3, a4, a5, a6, a7] : List Int))
  go_enter Try.func62, Try.ntmps62
  go_upto_region 1 with fail
  generalize ((w.alloc (.cells (vC ([a0, a1, a2, a3, a4, a5, a6, a7] : List Int)) TC)).alloc (.cells z9 TC)).alloc (.cells (aV 0 false) TA) = W at *
  have x0 : ∀ wx, (Instr.indexAt 57 (.pointer (some ⟨w.heap.size, 0, none⟩)) (.int .i64 0)).run Try.prog wx = .ok (.pointer (some ⟨w.heap.size, 0, none⟩)) wx := ix8 w.heap.size 0 (by omega)
  have x1 : ∀ wx, (Instr.indexAt 57 (.pointer (some ⟨w.heap.size, 0, none⟩)) (.int .i64 7)).run Try.prog wx = .ok (.pointer (some ⟨w.heap.size, 7, none⟩)) wx := ix8 w.heap.size 7 (by omega)
  have k8 : W.cell? ⟨w.heap.size, 8, none⟩ = some (.int .i64 8) := cell_lc (k := 8) s0.out.r rfl
  have k0 : W.cell? ⟨w.heap.size, 0, none⟩ = some (.int .i64 a0) := cell_lc (k := 0) s0.out.r rfl
  go_wp2_with fail
  have s1 : Hid (C3 w W.drew (vC ([a0, a1, a2, a3, a4, a5, a6, a7] : List Int)) z9 (aV 0 false)) := s0.out.later (bey_drew W)
  have hcp0 := run_copy_row (P := Try.prog) W.drew 36 36 3 2 w.heap.size 0 8 8 ⟨w.heap.size, 1, none⟩ 7 7 (vC ([a0, a1, a2, a3, a4, a5, a6, a7] : List Int)) TC [.int .i64 a1, .int .i64 a2, .int .i64 a3, .int .i64 a4, .int .i64 a5, .int .i64 a6, .int .i64 a7] Try.underlying36 (by kernel_rfl) s1.out.r rfl (fun j v hj => by (have h1 : j < 7 := by (have := (List.getElem?_eq_some_iff.mp hj).1; simpa using this)); (have h2 : j = 0 ∨ j = 1 ∨ j = 2 ∨ j = 3 ∨ j = 4 ∨ j = 5 ∨ j = 6 := by omega); rcases h2 with rfl | rfl | rfl | rfl | rfl | rfl | rfl <;> exact cell_lc s1.out.r (by simpa [vC] using hj)) (by simp [vC]) (by simp [Value.oneCell'])
  obtain ⟨W2, hW2⟩ : ∃ W2, W2 = W.drew.setRow w.heap.size #[.int .i64 a1, .int .i64 a2, .int .i64 a3, .int .i64 a4, .int .i64 a5, .int .i64 a6, .int .i64 a7, .int .i64 a7, .int .i64 8] := ⟨_, rfl⟩
  have hcp : Sem.run Try.prog (Builtin.copy_ #[36, 36] 3 #[.slice (some ⟨w.heap.size, 0, none⟩) 8 8, .slice (some ⟨w.heap.size, 1, none⟩) 7 7]) W.drew = .ok (.int .i64 7) W2 := by rw [hW2]; exact hcp0
  have s2 : Hid (C3 w W2 #[.int .i64 a1, .int .i64 a2, .int .i64 a3, .int .i64 a4, .int .i64 a5, .int .i64 a6, .int .i64 a7, .int .i64 a7, .int .i64 8] z9 (aV 0 false)) := by (rw [hW2]; exact s1.out.setR #[.int .i64 a1, .int .i64 a2, .int .i64 a3, .int .i64 a4, .int .i64 a5, .int .i64 a6, .int .i64 a7, .int .i64 a7, .int .i64 8])
  clear hW2 hcp0
  have k8d : W.drew.cell? ⟨w.heap.size, 8, none⟩ = some (.int .i64 8) := cell_lc (k := 8) s1.out.r rfl
  go_region
  clear s0 s1 k8 k0
  have k8 : W2.cell? ⟨w.heap.size, 8, none⟩ = some (.int .i64 8) := cell_lc (k := 8) s2.out.r rfl
  go_wp2_with (first
    | (refine wpList_puti rfl 3 _ _ rfl ⟨w.heap.size, 8, none⟩ rfl 7 rfl (by kernel_rfl) _ (cell_lc (k := 8) s2.out.r rfl) (s2.out.frz 8) fun W3 hW3 => ?_; (have s3 : Hid (C3 w W3 #[.int .i64 a1, .int .i64 a2, .int .i64 a3, .int .i64 a4, .int .i64 a5, .int .i64 a6, .int .i64 a7, .int .i64 a7, .int .i64 7] z9 (aV 0 false)) := by (rw [hW3]; exact s2.out.set 8 _)); clear hW3; clear s2 k8; (have k8 : W3.cell? ⟨w.heap.size, 8, none⟩ = some (.int .i64 7) := cell_lc (k := 8) s3.out.r rfl))
    | (refine wpList_puti rfl 2 _ _ rfl ⟨w.heap.size, 7, none⟩ rfl 0 rfl (by kernel_rfl) _ (cell_lc (k := 7) s3.out.r rfl) (s3.out.frz 7) fun W4 hW4 => ?_; (have s4 : Hid (C3 w W4 (vC ([a1, a2, a3, a4, a5, a6, a7] : List Int)) z9 (aV 0 false)) := by (rw [hW4]; exact s3.out.set 7 _)); clear hW4; clear s3 k8)
    | (refine wpList_load_row rfl 59 _ rfl w.heap.size rfl _ _ _ _ s4.out.r huC.out rfl infoC9 ?_)
    | (refine wpList_store_row rfl 59 _ _ rfl (w.heap.size + 1) (vC ([a1, a2, a3, a4, a5, a6, a7] : List Int)) rfl rfl _ _ s4.out.o infoC9 rfl (by simp [vC, Value.oneCell']) ?_; (have sO : Hid (C3 w _ _ _ _) := s4.out.row (vC ([a1, a2, a3, a4, a5, a6, a7] : List Int))); generalize World.setRow _ _ _ = WO at *)
    | (refine wpList_store_row rfl 127 _ _ rfl (w.heap.size + 1 + 1) (aV a0 false) rfl rfl _ _ sO.out.t infoAn rfl (by simp [Value.oneCell']) ?_; (have sA : Hid (C3 w _ _ _ _) := sO.out.ans (aV a0 false))))
  exact bodyPost_ret (res_ca Try.results62 _ sA.out rfl rfl rfl rfl) rfl ⟨rfl, sA.out.b⟩
theorem takef_d (c : List Int) (hc : c.length ≤ 8) (inn : Int) : DeedR 62 c inn (if c = [] then (c, 0, true) else (c.tail, c.getD 0 0, false)) := by
  match c, hc with
  | [], _ => exact takef_d0 inn
  | [a0], _ => exact takef_d1 a0 inn
  | [a0, a1], _ => exact takef_d2 a0 a1 inn
  | [a0, a1, a2], _ => exact takef_d3 a0 a1 a2 inn
  | [a0, a1, a2, a3], _ => exact takef_d4 a0 a1 a2 a3 inn
  | [a0, a1, a2, a3, a4], _ => exact takef_d5 a0 a1 a2 a3 a4 inn
  | [a0, a1, a2, a3, a4, a5], _ => exact takef_d6 a0 a1 a2 a3 a4 a5 inn
  | [a0, a1, a2, a3, a4, a5, a6], _ => exact takef_d7 a0 a1 a2 a3 a4 a5 a6 inn
  | [a0, a1, a2, a3, a4, a5, a6, a7], _ => exact takef_d8 a0 a1 a2 a3 a4 a5 a6 a7 inn
  | a0 :: a1 :: a2 :: a3 :: a4 :: a5 :: a6 :: a7 :: a8 :: l, h => exact absurd h (by simp only [List.length_cons]; omega)
theorem takel_d (c : List Int) (hc : c.length ≤ 8) (inn : Int) : DeedR 63 c inn (if c = [] then (c, 0, true) else (c.dropLast, c.getD (c.length - 1) 0, false)) := by
  match c, hc with
  | [], _ => exact takel_d0 inn
  | [a0], _ => exact takel_d1 a0 inn
  | [a0, a1], _ => exact takel_d2 a0 a1 inn
  | [a0, a1, a2], _ => exact takel_d3 a0 a1 a2 inn
  | [a0, a1, a2, a3], _ => exact takel_d4 a0 a1 a2 a3 inn
  | [a0, a1, a2, a3, a4], _ => exact takel_d5 a0 a1 a2 a3 a4 inn
  | [a0, a1, a2, a3, a4, a5], _ => exact takel_d6 a0 a1 a2 a3 a4 a5 inn
  | [a0, a1, a2, a3, a4, a5, a6], _ => exact takel_d7 a0 a1 a2 a3 a4 a5 a6 inn
  | [a0, a1, a2, a3, a4, a5, a6, a7], _ => exact takel_d8 a0 a1 a2 a3 a4 a5 a6 a7 inn
  | a0 :: a1 :: a2 :: a3 :: a4 :: a5 :: a6 :: a7 :: a8 :: l, h => exact absurd h (by simp only [List.length_cons]; omega)
end Go.Proofs.Ytklpifammbnldaa.pg
/- Kinds of things: package linear's thingOf, and what a thing's operation does. -/
namespace Go.Proofs.Ytklpifammbnldaa.pg
open Go.ChangeShapes Go.WideShapes Go.ChangeAt Go.RowKit
set_option linter.unusedVariables false
set_option linter.unusedSimpArgs false
set_option maxRecDepth 100000
attribute [local go_sem ↓] Go.wp_at_zero Go.wp_at_succ
abbrev fv (n : Nat) : Value := .func (.func n) #[] #[]
/-- The function that does an operation. -/
def fnD (k d : Int) : Nat := if d = 1 then 58 else if d = 2 then 59 else if d = 3 then 60 else if d = 4 then 61 else if k = 3 then 62 else 63
def dA (k : Int) : Int := if k = 1 ∨ k = 2 then 1 else 4
def dB (k : Int) : Int := if k = 1 then 2 else if k = 2 then 3 else 5
/-- A thing, as it lies. -/
def vT (k : Int) : Array Value := #[.int .i64 0, .int .i64 0, .int .i64 0, .int .i64 0, .int .i64 0, .int .i64 0, .int .i64 0, .int .i64 0, .int .i64 ((firstC k).length : Int), .int .i64 (dA k), fv (fnD k (dA k)), .int .i64 (dB k), fv (fnD k (dB k))]
abbrev zT : Array Value := #[.int .i64 0, .int .i64 0, .int .i64 0, .int .i64 0, .int .i64 0, .int .i64 0, .int .i64 0, .int .i64 0, .int .i64 0, .int .i64 0, .nilFunc, .int .i64 0, .nilFunc]
abbrev TT : TypeId := 65
abbrev TD : TypeId := 62
theorem zeroT : ∀ w, (zeroValue 65).run Try.prog w = .ok (.agg zT) w := fun w => by kernel_rfl
theorem infoT : (Try.prog.info? 65).map (·.size) = some 13 := by kernel_rfl
theorem infoD : (Try.prog.info? 62).map (·.size) = some 2 := by kernel_rfl
theorem res_cs {fn : Func} {p q : Tmp} {T : TypeId} (h : fn.results = #[.cell p T, .tmp q]) (tmps : Array Value) (w : World) {B : Nat} {cs : Array Value} {v : Value} (hl : (loadVar T ⟨B, 0, none⟩).run Try.prog w = .ok (.agg cs) w)
    (hp : tmps[p]?.getD undef = .pointer (some ⟨B, 0, none⟩)) (hq : tmps[q]?.getD undef = v) : (results fn tmps).run Try.prog w = .ok (.tuple #[.agg cs, v]) w := by
  simp [results, h, hp, hq, asAddr, hl]
set_option maxHeartbeats 1000000 in
theorem thing_1 (w : World) : Calls Try.prog 41 #[.int .i64 1] w fun e w' => e = .returned (.tuple #[.agg (vT 1), .bool true]) ∧ Below w.heap.size w w' := by
  have huC : Hid (Try.prog.underlying 59 = _) := Try.underlying59
  have huT : Hid (Try.prog.underlying 65 = _) := Try.underlying65
  go_enter Try.func41, Try.ntmps41
  go_wp2_with (first
    | (refine wpList_alloc_big rfl 65 rfl zeroT ?_; (have hA : Hid ((w.alloc (.cells zT TT)).heap[w.heap.size]? = some (.cells zT TT) ∧ Below w.heap.size w (w.alloc (.cells zT TT))) := ⟨heap_alloc_new _ _, boxed _ _⟩))
    | (refine wpList_store_row rfl 65 _ _ rfl w.heap.size (vT 1) rfl rfl _ _ (blk_on hA.out.1 (boxed _ _)) infoT rfl (by simp [vT, Value.oneCell']) ?_; (have hF : Hid ((((w.alloc (.cells zT TT)).alloc (.cells #[.int .i64 0, .int .i64 0, .int .i64 0, .int .i64 0, .int .i64 0, .int .i64 0, .int .i64 0, .int .i64 0, .int .i64 1] TC)).setRow w.heap.size (vT 1)).heap[w.heap.size]? = some (.cells (vT 1) TT) ∧ Below w.heap.size w (((w.alloc (.cells zT TT)).alloc (.cells #[.int .i64 0, .int .i64 0, .int .i64 0, .int .i64 0, .int .i64 0, .int .i64 0, .int .i64 0, .int .i64 0, .int .i64 1] TC)).setRow w.heap.size (vT 1))) := ⟨setRow_heap _ _ _ _ _ _ (blk_on hA.out.1 (boxed _ _)), below_setRow (bthen hA.out.2 (boxed _ _)) (Nat.le_refl _) _⟩)))
  exact bodyPost_ret (res_cs Try.results41 _ _ (run_loadVar_row _ _ _ 65 _ _ _ hF.out.1 huT.out rfl infoT) rfl rfl) rfl ⟨rfl, hF.out.2⟩
set_option maxHeartbeats 1000000 in
theorem thing_2 (w : World) : Calls Try.prog 41 #[.int .i64 2] w fun e w' => e = .returned (.tuple #[.agg (vT 2), .bool true]) ∧ Below w.heap.size w w' := by
  have huC : Hid (Try.prog.underlying 59 = _) := Try.underlying59
  have huT : Hid (Try.prog.underlying 65 = _) := Try.underlying65
  go_enter Try.func41, Try.ntmps41
  go_wp2_with (first
    | (refine wpList_alloc_big rfl 65 rfl zeroT ?_; (have hA : Hid ((w.alloc (.cells zT TT)).heap[w.heap.size]? = some (.cells zT TT) ∧ Below w.heap.size w (w.alloc (.cells zT TT))) := ⟨heap_alloc_new _ _, boxed _ _⟩))
    | (refine wpList_store_row rfl 65 _ _ rfl w.heap.size (vT 2) rfl rfl _ _ (blk_on hA.out.1 (boxed _ _)) infoT rfl (by simp [vT, Value.oneCell']) ?_; (have hF : Hid ((((w.alloc (.cells zT TT)).alloc (.cells #[.int .i64 0, .int .i64 0, .int .i64 0, .int .i64 0, .int .i64 0, .int .i64 0, .int .i64 0, .int .i64 0, .int .i64 1] TC)).setRow w.heap.size (vT 2)).heap[w.heap.size]? = some (.cells (vT 2) TT) ∧ Below w.heap.size w (((w.alloc (.cells zT TT)).alloc (.cells #[.int .i64 0, .int .i64 0, .int .i64 0, .int .i64 0, .int .i64 0, .int .i64 0, .int .i64 0, .int .i64 0, .int .i64 1] TC)).setRow w.heap.size (vT 2))) := ⟨setRow_heap _ _ _ _ _ _ (blk_on hA.out.1 (boxed _ _)), below_setRow (bthen hA.out.2 (boxed _ _)) (Nat.le_refl _) _⟩)))
  exact bodyPost_ret (res_cs Try.results41 _ _ (run_loadVar_row _ _ _ 65 _ _ _ hF.out.1 huT.out rfl infoT) rfl rfl) rfl ⟨rfl, hF.out.2⟩
set_option maxHeartbeats 1000000 in
theorem thing_3 (w : World) : Calls Try.prog 41 #[.int .i64 3] w fun e w' => e = .returned (.tuple #[.agg (vT 3), .bool true]) ∧ Below w.heap.size w w' := by
  have huC : Hid (Try.prog.underlying 59 = _) := Try.underlying59
  have huT : Hid (Try.prog.underlying 65 = _) := Try.underlying65
  go_enter Try.func41, Try.ntmps41
  go_wp2_with (first
    | (refine wpList_alloc_big rfl 65 rfl zeroT ?_; (have hA : Hid ((w.alloc (.cells zT TT)).heap[w.heap.size]? = some (.cells zT TT) ∧ Below w.heap.size w (w.alloc (.cells zT TT))) := ⟨heap_alloc_new _ _, boxed _ _⟩))
    | (refine wpList_store_row rfl 65 _ _ rfl w.heap.size (vT 3) rfl rfl _ _ (blk_on hA.out.1 (boxed _ _)) infoT rfl (by simp [vT, Value.oneCell']) ?_; (have hF : Hid ((((w.alloc (.cells zT TT)).alloc (.cells #[.int .i64 0, .int .i64 0, .int .i64 0, .int .i64 0, .int .i64 0, .int .i64 0, .int .i64 0, .int .i64 0, .int .i64 1] TC)).setRow w.heap.size (vT 3)).heap[w.heap.size]? = some (.cells (vT 3) TT) ∧ Below w.heap.size w (((w.alloc (.cells zT TT)).alloc (.cells #[.int .i64 0, .int .i64 0, .int .i64 0, .int .i64 0, .int .i64 0, .int .i64 0, .int .i64 0, .int .i64 0, .int .i64 1] TC)).setRow w.heap.size (vT 3))) := ⟨setRow_heap _ _ _ _ _ _ (blk_on hA.out.1 (boxed _ _)), below_setRow (bthen hA.out.2 (boxed _ _)) (Nat.le_refl _) _⟩)))
  exact bodyPost_ret (res_cs Try.results41 _ _ (run_loadVar_row _ _ _ 65 _ _ _ hF.out.1 huT.out rfl infoT) rfl rfl) rfl ⟨rfl, hF.out.2⟩
set_option maxHeartbeats 1000000 in
theorem thing_4 (w : World) : Calls Try.prog 41 #[.int .i64 4] w fun e w' => e = .returned (.tuple #[.agg (vT 4), .bool true]) ∧ Below w.heap.size w w' := by
  have huC : Hid (Try.prog.underlying 59 = _) := Try.underlying59
  have huT : Hid (Try.prog.underlying 65 = _) := Try.underlying65
  go_enter Try.func41, Try.ntmps41
  go_wp2_with (first
    | (refine wpList_alloc_big rfl 65 rfl zeroT ?_; (have hA : Hid ((w.alloc (.cells zT TT)).heap[w.heap.size]? = some (.cells zT TT) ∧ Below w.heap.size w (w.alloc (.cells zT TT))) := ⟨heap_alloc_new _ _, boxed _ _⟩))
    | (refine wpList_store_row rfl 65 _ _ rfl w.heap.size (vT 4) rfl rfl _ _ (blk_on hA.out.1 (boxed _ _)) infoT rfl (by simp [vT, Value.oneCell']) ?_; (have hF : Hid ((((w.alloc (.cells zT TT)).alloc (.cells #[.int .i64 0, .int .i64 0, .int .i64 0, .int .i64 0, .int .i64 0, .int .i64 0, .int .i64 0, .int .i64 0, .int .i64 1] TC)).setRow w.heap.size (vT 4)).heap[w.heap.size]? = some (.cells (vT 4) TT) ∧ Below w.heap.size w (((w.alloc (.cells zT TT)).alloc (.cells #[.int .i64 0, .int .i64 0, .int .i64 0, .int .i64 0, .int .i64 0, .int .i64 0, .int .i64 0, .int .i64 0, .int .i64 1] TC)).setRow w.heap.size (vT 4))) := ⟨setRow_heap _ _ _ _ _ _ (blk_on hA.out.1 (boxed _ _)), below_setRow (bthen hA.out.2 (boxed _ _)) (Nat.le_refl _) _⟩)))
  exact bodyPost_ret (res_cs Try.results41 _ _ (run_loadVar_row _ _ _ 65 _ _ _ hF.out.1 huT.out rfl infoT) rfl rfl) rfl ⟨rfl, hF.out.2⟩
set_option maxHeartbeats 1000000 in
theorem thing_no (k : Int) (h1 : (k == 1) = false) (h2 : (k == 2) = false) (h3 : (k == 3) = false) (h4 : (k == 4) = false) (w : World) : Calls Try.prog 41 #[.int .i64 k] w fun e w' => e = .returned (.tuple #[.agg zT, .bool false]) ∧ Below w.heap.size w w' := by
  have huC : Hid (Try.prog.underlying 59 = _) := Try.underlying59
  have huT : Hid (Try.prog.underlying 65 = _) := Try.underlying65
  go_enter Try.func41, Try.ntmps41
  go_wp2_with (first
    | (refine wpList_alloc_big rfl 65 rfl zeroT ?_; (have hA : Hid ((w.alloc (.cells zT TT)).heap[w.heap.size]? = some (.cells zT TT) ∧ Below w.heap.size w (w.alloc (.cells zT TT))) := ⟨heap_alloc_new _ _, boxed _ _⟩))
    | (refine wpList_store_row rfl 65 _ _ rfl w.heap.size zT rfl rfl _ _ (blk_on hA.out.1 (boxed _ _)) infoT rfl (by simp [vT, Value.oneCell']) ?_; (have hF : Hid ((((w.alloc (.cells zT TT)).alloc (.cells #[.int .i64 0, .int .i64 0, .int .i64 0, .int .i64 0, .int .i64 0, .int .i64 0, .int .i64 0, .int .i64 0, .int .i64 1] TC)).setRow w.heap.size zT).heap[w.heap.size]? = some (.cells zT TT) ∧ Below w.heap.size w (((w.alloc (.cells zT TT)).alloc (.cells #[.int .i64 0, .int .i64 0, .int .i64 0, .int .i64 0, .int .i64 0, .int .i64 0, .int .i64 0, .int .i64 0, .int .i64 1] TC)).setRow w.heap.size zT)) := ⟨setRow_heap _ _ _ _ _ _ (blk_on hA.out.1 (boxed _ _)), below_setRow (bthen hA.out.2 (boxed _ _)) (Nat.le_refl _) _⟩)))
  exact bodyPost_ret (res_cs Try.results41 _ _ (run_loadVar_row _ _ _ 65 _ _ _ hF.out.1 huT.out rfl infoT) rfl rfl) rfl ⟨rfl, hF.out.2⟩
theorem kinds4 (k : Int) : (k = 1 ∨ k = 2 ∨ k = 3 ∨ k = 4) ∨ ((k == 1) = false ∧ (k == 2) = false ∧ (k == 3) = false ∧ (k == 4) = false ∧ ¬ (1 ≤ k ∧ k ≤ 4)) := by
  by_cases h1 : k = 1
  · exact .inl (.inl h1)
  by_cases h2 : k = 2
  · exact .inl (.inr (.inl h2))
  by_cases h3 : k = 3
  · exact .inl (.inr (.inr (.inl h3)))
  by_cases h4 : k = 4
  · exact .inl (.inr (.inr (.inr h4)))
  · exact .inr ⟨by simpa using h1, by simpa using h2, by simpa using h3, by simpa using h4, by omega⟩
theorem thing_any (k : Int) (hk : 1 ≤ k ∧ k ≤ 4) (w : World) : Calls Try.prog 41 #[.int .i64 k] w fun e w' => e = .returned (.tuple #[.agg (vT k), .bool true]) ∧ Below w.heap.size w w' := by
  rcases kinds4 k with (rfl | rfl | rfl | rfl) | h
  · exact thing_1 w
  · exact thing_2 w
  · exact thing_3 w
  · exact thing_4 w
  · exact absurd hk h.2.2.2.2
end Go.Proofs.Ytklpifammbnldaa.pg
