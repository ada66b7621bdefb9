/- The document's Read of bytes that are no witness's. -/
import Derived.Test.YtikkgfmhnmoalaaM22
import Derived.Test.YtikkgfmhnmoalaaM14
namespace Go.Proofs.Ytikkgfmhnmoalaa.pg
open Go.ChangeShapes Go.WideShapes Go.ChangeAt Go.RowKit
set_option linter.unusedVariables false
set_option linter.unusedSimpArgs false
set_option maxRecDepth 100000
theorem u8_off (b off n c K : Nat) (h : K < n) : ∀ wx, (Instr.indexAt 32 (.slice (some ⟨b, off, none⟩) n c) (.int .i64 (K : Int))).run Try.prog wx = .ok (.pointer (some ⟨b, off + K, none⟩)) wx := by
  intro wx
  rw [run_indexAt_slice wx 32 ⟨b, off, none⟩ _ _ _ _ Try.underlying32, if_pos (by omega), show Try.prog.elem 32 = 5 by kernel_rfl, Try.sizeOf5 wx]
  simp only [Int.toNat_natCast]
  show Result.ok (Value.pointer (some ((⟨b, off, none⟩ : Addr).add (K * 1)))) wx = _
  rw [add_none]
  simp
theorem row_at {w : World} {b off n : Nat} {f : Nat → Nat} (h : octet.Row w (some ⟨b, off, none⟩) n f) (K : Nat) (hK : K < n) : w.cell? ⟨b, off + K, none⟩ = some (.int .u8 ((f K : Nat) : Int)) := by
  rcases h.2.2 with h0 | ⟨b', off', ha, hc⟩
  · omega
  · simp only [Option.some.injEq, Addr.mk.injEq, and_true] at ha
    obtain ⟨rfl, rfl⟩ := ha
    exact hc K hK
section
variable {w : World}
set_option maxHeartbeats 4000000 in
theorem rread_long (a : Option Addr) (f : Nat → Nat) (n c : Nat) (h1 : (65536 : Int) < n) : Calls Try.prog 12 #[.slice a n c] w fun e w' => e = .returned (.tuple #[.agg (zeroWi.cells none 0).toArray, .int .i64 2, .int .i64 0]) ∧ Below w.heap.size w w' := by
  have hb := boxed w objZ
  have hz : Hid ((w.alloc objZ).heap[w.heap.size]? = some objZ) := heap_alloc_new _ _
  go_enter Try.func12, Try.ntmps12
  go_wp2_with (first
    | (refine wpList_store_row rfl 31 _ _ rfl w.heap.size _ rfl rfl _ _ hz.out infoW12 rfl (oneW zeroWi none 0) ?_))
  refine bodyPost_ret (results_w Try.results12 _ _ w.heap.size (zeroWi.cells none 0).toArray _ _ rfl rfl rfl rfl (setRow_heap _ _ _ _ _ _ hz.out)) rfl ⟨rfl, ?_⟩
  exact below_setRow hb (Nat.le_refl _) _
set_option maxHeartbeats 4000000 in
theorem rread_few (a : Option Addr) (f : Nat → Nat) (n c : Nat) (h1 : (n : Int) ≤ 65536) (h2 : (n : Int) < 4) : Calls Try.prog 12 #[.slice a n c] w fun e w' => e = .returned (.tuple #[.agg (zeroWi.cells none 0).toArray, .int .i64 40, .int .i64 0]) ∧ Below w.heap.size w w' := by
  have hb := boxed w objZ
  have hz : Hid ((w.alloc objZ).heap[w.heap.size]? = some objZ) := heap_alloc_new _ _
  go_enter Try.func12, Try.ntmps12
  go_wp2_with (first
    | (refine wpList_store_row rfl 31 _ _ rfl w.heap.size _ rfl rfl _ _ hz.out infoW12 rfl (oneW zeroWi none 0) ?_))
  refine bodyPost_ret (results_w Try.results12 _ _ w.heap.size (zeroWi.cells none 0).toArray _ _ rfl rfl rfl rfl (setRow_heap _ _ _ _ _ _ hz.out)) rfl ⟨rfl, ?_⟩
  exact below_setRow hb (Nat.le_refl _) _
set_option maxHeartbeats 4000000 in
theorem rread_mag0 (b off : Nat) (f : Nat → Nat) (n c : Nat) (hr : octet.Row w (some ⟨b, off, none⟩) n f) (h1 : (n : Int) ≤ 65536) (h2 : (4 : Int) ≤ n)  (hx : f 0 ≠ 115) : Calls Try.prog 12 #[.slice (some ⟨b, off, none⟩) n c] w fun e w' => e = .returned (.tuple #[.agg (zeroWi.cells none 0).toArray, .int .i64 40, .int .i64 0]) ∧ Below w.heap.size w w' := by
  have hb := boxed w objZ
  have hz : Hid ((w.alloc objZ).heap[w.heap.size]? = some objZ) := heap_alloc_new _ _
  have ix0 : ∀ wx, (Instr.indexAt 32 (.slice (some ⟨b, off, none⟩) n c) (.int .i64 0)).run Try.prog wx = .ok (.pointer (some ⟨b, off, none⟩)) wx := u8_off b off n c 0 (by omega)
  have c0 : (w.alloc objZ).cell? ⟨b, off, none⟩ = some (.int .u8 ((f 0 : Nat) : Int)) := row_at (hr.later hb) 0 (by omega)
  have hx1 : (((f 0 : Nat) : Int) == 115) = false := by simp; omega
  have hx2 : (((f 0 : Nat) : Int) != 115) = true := by simp; omega
  generalize ((f 0 : Nat) : Int) = X at *
  clear hr hx
  go_enter Try.func12, Try.ntmps12
  go_wp2_with (first
    | (refine wpList_store_row rfl 31 _ _ rfl w.heap.size _ rfl rfl _ _ hz.out infoW12 rfl (oneW zeroWi none 0) ?_))
  refine bodyPost_ret (results_w Try.results12 _ _ w.heap.size (zeroWi.cells none 0).toArray _ _ rfl rfl rfl rfl (setRow_heap _ _ _ _ _ _ hz.out)) rfl ⟨rfl, ?_⟩
  exact below_setRow hb (Nat.le_refl _) _
set_option maxHeartbeats 4000000 in
theorem rread_mag1 (b off : Nat) (f : Nat → Nat) (n c : Nat) (hr : octet.Row w (some ⟨b, off, none⟩) n f) (h1 : (n : Int) ≤ 65536) (h2 : (4 : Int) ≤ n) (e0 : f 0 = 115) (hx : f 1 ≠ 99) : Calls Try.prog 12 #[.slice (some ⟨b, off, none⟩) n c] w fun e w' => e = .returned (.tuple #[.agg (zeroWi.cells none 0).toArray, .int .i64 40, .int .i64 0]) ∧ Below w.heap.size w w' := by
  have hb := boxed w objZ
  have hz : Hid ((w.alloc objZ).heap[w.heap.size]? = some objZ) := heap_alloc_new _ _
  have ix0 : ∀ wx, (Instr.indexAt 32 (.slice (some ⟨b, off, none⟩) n c) (.int .i64 0)).run Try.prog wx = .ok (.pointer (some ⟨b, off, none⟩)) wx := u8_off b off n c 0 (by omega)
  have ix1 : ∀ wx, (Instr.indexAt 32 (.slice (some ⟨b, off, none⟩) n c) (.int .i64 1)).run Try.prog wx = .ok (.pointer (some ⟨b, off + 1, none⟩)) wx := u8_off b off n c 1 (by omega)
  have c0 : (w.alloc objZ).cell? ⟨b, off, none⟩ = some (.int .u8 115) := (row_at (hr.later hb) 0 (by omega)).trans (by rw [e0]; rfl)
  have c1 : (w.alloc objZ).cell? ⟨b, off + 1, none⟩ = some (.int .u8 ((f 1 : Nat) : Int)) := row_at (hr.later hb) 1 (by omega)
  have hx1 : (((f 1 : Nat) : Int) == 99) = false := by simp; omega
  have hx2 : (((f 1 : Nat) : Int) != 99) = true := by simp; omega
  generalize ((f 1 : Nat) : Int) = X at *
  clear hr hx
  go_enter Try.func12, Try.ntmps12
  go_wp2_with (first
    | (refine wpList_store_row rfl 31 _ _ rfl w.heap.size _ rfl rfl _ _ hz.out infoW12 rfl (oneW zeroWi none 0) ?_))
  refine bodyPost_ret (results_w Try.results12 _ _ w.heap.size (zeroWi.cells none 0).toArray _ _ rfl rfl rfl rfl (setRow_heap _ _ _ _ _ _ hz.out)) rfl ⟨rfl, ?_⟩
  exact below_setRow hb (Nat.le_refl _) _
set_option maxHeartbeats 4000000 in
theorem rread_mag2 (b off : Nat) (f : Nat → Nat) (n c : Nat) (hr : octet.Row w (some ⟨b, off, none⟩) n f) (h1 : (n : Int) ≤ 65536) (h2 : (4 : Int) ≤ n) (e0 : f 0 = 115) (e1 : f 1 = 99) (hx : f 2 ≠ 97) : Calls Try.prog 12 #[.slice (some ⟨b, off, none⟩) n c] w fun e w' => e = .returned (.tuple #[.agg (zeroWi.cells none 0).toArray, .int .i64 40, .int .i64 0]) ∧ Below w.heap.size w w' := by
  have hb := boxed w objZ
  have hz : Hid ((w.alloc objZ).heap[w.heap.size]? = some objZ) := heap_alloc_new _ _
  have ix0 : ∀ wx, (Instr.indexAt 32 (.slice (some ⟨b, off, none⟩) n c) (.int .i64 0)).run Try.prog wx = .ok (.pointer (some ⟨b, off, none⟩)) wx := u8_off b off n c 0 (by omega)
  have ix1 : ∀ wx, (Instr.indexAt 32 (.slice (some ⟨b, off, none⟩) n c) (.int .i64 1)).run Try.prog wx = .ok (.pointer (some ⟨b, off + 1, none⟩)) wx := u8_off b off n c 1 (by omega)
  have ix2 : ∀ wx, (Instr.indexAt 32 (.slice (some ⟨b, off, none⟩) n c) (.int .i64 2)).run Try.prog wx = .ok (.pointer (some ⟨b, off + 2, none⟩)) wx := u8_off b off n c 2 (by omega)
  have c0 : (w.alloc objZ).cell? ⟨b, off, none⟩ = some (.int .u8 115) := (row_at (hr.later hb) 0 (by omega)).trans (by rw [e0]; rfl)
  have c1 : (w.alloc objZ).cell? ⟨b, off + 1, none⟩ = some (.int .u8 99) := (row_at (hr.later hb) 1 (by omega)).trans (by rw [e1]; rfl)
  have c2 : (w.alloc objZ).cell? ⟨b, off + 2, none⟩ = some (.int .u8 ((f 2 : Nat) : Int)) := row_at (hr.later hb) 2 (by omega)
  have hx1 : (((f 2 : Nat) : Int) == 97) = false := by simp; omega
  have hx2 : (((f 2 : Nat) : Int) != 97) = true := by simp; omega
  generalize ((f 2 : Nat) : Int) = X at *
  clear hr hx
  go_enter Try.func12, Try.ntmps12
  go_wp2_with (first
    | (refine wpList_store_row rfl 31 _ _ rfl w.heap.size _ rfl rfl _ _ hz.out infoW12 rfl (oneW zeroWi none 0) ?_))
  refine bodyPost_ret (results_w Try.results12 _ _ w.heap.size (zeroWi.cells none 0).toArray _ _ rfl rfl rfl rfl (setRow_heap _ _ _ _ _ _ hz.out)) rfl ⟨rfl, ?_⟩
  exact below_setRow hb (Nat.le_refl _) _
set_option maxHeartbeats 4000000 in
theorem rread_mag3 (b off : Nat) (f : Nat → Nat) (n c : Nat) (hr : octet.Row w (some ⟨b, off, none⟩) n f) (h1 : (n : Int) ≤ 65536) (h2 : (4 : Int) ≤ n) (e0 : f 0 = 115) (e1 : f 1 = 99) (e2 : f 2 = 97) (hx : f 3 ≠ 119) : Calls Try.prog 12 #[.slice (some ⟨b, off, none⟩) n c] w fun e w' => e = .returned (.tuple #[.agg (zeroWi.cells none 0).toArray, .int .i64 40, .int .i64 0]) ∧ Below w.heap.size w w' := by
  have hb := boxed w objZ
  have hz : Hid ((w.alloc objZ).heap[w.heap.size]? = some objZ) := heap_alloc_new _ _
  have ix0 : ∀ wx, (Instr.indexAt 32 (.slice (some ⟨b, off, none⟩) n c) (.int .i64 0)).run Try.prog wx = .ok (.pointer (some ⟨b, off, none⟩)) wx := u8_off b off n c 0 (by omega)
  have ix1 : ∀ wx, (Instr.indexAt 32 (.slice (some ⟨b, off, none⟩) n c) (.int .i64 1)).run Try.prog wx = .ok (.pointer (some ⟨b, off + 1, none⟩)) wx := u8_off b off n c 1 (by omega)
  have ix2 : ∀ wx, (Instr.indexAt 32 (.slice (some ⟨b, off, none⟩) n c) (.int .i64 2)).run Try.prog wx = .ok (.pointer (some ⟨b, off + 2, none⟩)) wx := u8_off b off n c 2 (by omega)
  have ix3 : ∀ wx, (Instr.indexAt 32 (.slice (some ⟨b, off, none⟩) n c) (.int .i64 3)).run Try.prog wx = .ok (.pointer (some ⟨b, off + 3, none⟩)) wx := u8_off b off n c 3 (by omega)
  have c0 : (w.alloc objZ).cell? ⟨b, off, none⟩ = some (.int .u8 115) := (row_at (hr.later hb) 0 (by omega)).trans (by rw [e0]; rfl)
  have c1 : (w.alloc objZ).cell? ⟨b, off + 1, none⟩ = some (.int .u8 99) := (row_at (hr.later hb) 1 (by omega)).trans (by rw [e1]; rfl)
  have c2 : (w.alloc objZ).cell? ⟨b, off + 2, none⟩ = some (.int .u8 97) := (row_at (hr.later hb) 2 (by omega)).trans (by rw [e2]; rfl)
  have c3 : (w.alloc objZ).cell? ⟨b, off + 3, none⟩ = some (.int .u8 ((f 3 : Nat) : Int)) := row_at (hr.later hb) 3 (by omega)
  have hx1 : (((f 3 : Nat) : Int) == 119) = false := by simp; omega
  have hx2 : (((f 3 : Nat) : Int) != 119) = true := by simp; omega
  generalize ((f 3 : Nat) : Int) = X at *
  clear hr hx
  go_enter Try.func12, Try.ntmps12
  go_wp2_with (first
    | (refine wpList_store_row rfl 31 _ _ rfl w.heap.size _ rfl rfl _ _ hz.out infoW12 rfl (oneW zeroWi none 0) ?_))
  refine bodyPost_ret (results_w Try.results12 _ _ w.heap.size (zeroWi.cells none 0).toArray _ _ rfl rfl rfl rfl (setRow_heap _ _ _ _ _ _ hz.out)) rfl ⟨rfl, ?_⟩
  exact below_setRow hb (Nat.le_refl _) _
set_option maxHeartbeats 4000000 in
theorem rread_short (b off : Nat) (f : Nat → Nat) (n c : Nat) (hr : octet.Row w (some ⟨b, off, none⟩) n f) (h1 : (n : Int) ≤ 65536) (h2 : (4 : Int) ≤ n) (e0 : f 0 = 115) (e1 : f 1 = 99) (e2 : f 2 = 97) (e3 : f 3 = 119) (h3 : (n : Int) < 12) : Calls Try.prog 12 #[.slice (some ⟨b, off, none⟩) n c] w fun e w' => e = .returned (.tuple #[.agg (zeroWi.cells none 0).toArray, .int .i64 10, .int .i64 (n : Int)]) ∧ Below w.heap.size w w' := by
  have hb := boxed w objZ
  have hz : Hid ((w.alloc objZ).heap[w.heap.size]? = some objZ) := heap_alloc_new _ _
  have ix0 : ∀ wx, (Instr.indexAt 32 (.slice (some ⟨b, off, none⟩) n c) (.int .i64 0)).run Try.prog wx = .ok (.pointer (some ⟨b, off, none⟩)) wx := u8_off b off n c 0 (by omega)
  have ix1 : ∀ wx, (Instr.indexAt 32 (.slice (some ⟨b, off, none⟩) n c) (.int .i64 1)).run Try.prog wx = .ok (.pointer (some ⟨b, off + 1, none⟩)) wx := u8_off b off n c 1 (by omega)
  have ix2 : ∀ wx, (Instr.indexAt 32 (.slice (some ⟨b, off, none⟩) n c) (.int .i64 2)).run Try.prog wx = .ok (.pointer (some ⟨b, off + 2, none⟩)) wx := u8_off b off n c 2 (by omega)
  have ix3 : ∀ wx, (Instr.indexAt 32 (.slice (some ⟨b, off, none⟩) n c) (.int .i64 3)).run Try.prog wx = .ok (.pointer (some ⟨b, off + 3, none⟩)) wx := u8_off b off n c 3 (by omega)
  have c0 : (w.alloc objZ).cell? ⟨b, off, none⟩ = some (.int .u8 115) := (row_at (hr.later hb) 0 (by omega)).trans (by rw [e0]; rfl)
  have c1 : (w.alloc objZ).cell? ⟨b, off + 1, none⟩ = some (.int .u8 99) := (row_at (hr.later hb) 1 (by omega)).trans (by rw [e1]; rfl)
  have c2 : (w.alloc objZ).cell? ⟨b, off + 2, none⟩ = some (.int .u8 97) := (row_at (hr.later hb) 2 (by omega)).trans (by rw [e2]; rfl)
  have c3 : (w.alloc objZ).cell? ⟨b, off + 3, none⟩ = some (.int .u8 119) := (row_at (hr.later hb) 3 (by omega)).trans (by rw [e3]; rfl)
  clear hr
  go_enter Try.func12, Try.ntmps12
  go_wp2_with (first
    | (refine wpList_store_row rfl 31 _ _ rfl w.heap.size _ rfl rfl _ _ hz.out infoW12 rfl (oneW zeroWi none 0) ?_))
  refine bodyPost_ret (results_w Try.results12 _ _ w.heap.size (zeroWi.cells none 0).toArray _ _ rfl rfl rfl rfl (setRow_heap _ _ _ _ _ _ hz.out)) rfl ⟨rfl, ?_⟩
  exact below_setRow hb (Nat.le_refl _) _
set_option maxHeartbeats 4000000 in
theorem rread_sum (b off : Nat) (f : Nat → Nat) (n c : Nat) (hr : octet.Row w (some ⟨b, off, none⟩) n f) (h1 : (n : Int) ≤ 65536) (h2 : (4 : Int) ≤ n) (e0 : f 0 = 115) (e1 : f 1 = 99) (e2 : f 2 = 97) (e3 : f 3 = 119) (h3 : (12 : Int) ≤ n) (hnc : n ≤ c) (hc : (c : Int) ≤ 9223372036854775807) (hx : octet.big (fun i => f (n - 4 + i)) 4 ≠ sumOf f (n - 4)) : Calls Try.prog 12 #[.slice (some ⟨b, off, none⟩) n c] w fun e w' => e = .returned (.tuple #[.agg (zeroWi.cells none 0).toArray, .int .i64 41, .int .i64 ((n : Int) - 4)]) ∧ Below w.heap.size w w' := by
  have hb := boxed w objZ
  have hz : Hid ((w.alloc objZ).heap[w.heap.size]? = some objZ) := heap_alloc_new _ _
  have ix0 : ∀ wx, (Instr.indexAt 32 (.slice (some ⟨b, off, none⟩) n c) (.int .i64 0)).run Try.prog wx = .ok (.pointer (some ⟨b, off, none⟩)) wx := u8_off b off n c 0 (by omega)
  have ix1 : ∀ wx, (Instr.indexAt 32 (.slice (some ⟨b, off, none⟩) n c) (.int .i64 1)).run Try.prog wx = .ok (.pointer (some ⟨b, off + 1, none⟩)) wx := u8_off b off n c 1 (by omega)
  have ix2 : ∀ wx, (Instr.indexAt 32 (.slice (some ⟨b, off, none⟩) n c) (.int .i64 2)).run Try.prog wx = .ok (.pointer (some ⟨b, off + 2, none⟩)) wx := u8_off b off n c 2 (by omega)
  have ix3 : ∀ wx, (Instr.indexAt 32 (.slice (some ⟨b, off, none⟩) n c) (.int .i64 3)).run Try.prog wx = .ok (.pointer (some ⟨b, off + 3, none⟩)) wx := u8_off b off n c 3 (by omega)
  have c0 : (w.alloc objZ).cell? ⟨b, off, none⟩ = some (.int .u8 115) := (row_at (hr.later hb) 0 (by omega)).trans (by rw [e0]; rfl)
  have c1 : (w.alloc objZ).cell? ⟨b, off + 1, none⟩ = some (.int .u8 99) := (row_at (hr.later hb) 1 (by omega)).trans (by rw [e1]; rfl)
  have c2 : (w.alloc objZ).cell? ⟨b, off + 2, none⟩ = some (.int .u8 97) := (row_at (hr.later hb) 2 (by omega)).trans (by rw [e2]; rfl)
  have c3 : (w.alloc objZ).cell? ⟨b, off + 3, none⟩ = some (.int .u8 119) := (row_at (hr.later hb) 3 (by omega)).trans (by rw [e3]; rfl)
  have cG : Calls Try.prog 31 #[.slice (some ⟨b, off, none⟩) n c, .int .i64 ((n : Int) - 4)] (w.alloc objZ) fun e w' => e = .returned (.tuple #[.int .u32 ((octet.big (fun i => f (n - 4 + i)) 4 : Nat) : Int), .int .i64 (((n - 4 : Nat) : Int) + 4), .int .i64 0]) ∧ w' = w.alloc objZ := by
    have := octet.refgetfix_walk (some ⟨b, off, none⟩) n c (n - 4) f (w.alloc objZ) (hr.later hb) (by omega) (by omega) _ rfl
    rwa [show ((n - 4 : Nat) : Int) = (n : Int) - 4 by omega] at this ⊢
  have cut : ∀ wx, (Instr.sliceAt 32 (.slice (some ⟨b, off, none⟩) n c) none (some (.int .i64 ((n : Int) - 4))) none).run Try.prog wx = .ok (.slice (some ⟨b, off, none⟩) (n - 4) c) wx := fun wx => by
    have := cut_hi b off n c (n - 4) (by omega) hc wx
    rwa [show ((n - 4 : Nat) : Int) = (n : Int) - 4 by omega] at this
  have hr4 : octet.Row (w.alloc objZ) (some ⟨b, off, none⟩) (n - 4) f := by
    have := row_part (hr.later hb) 0 (n - 4) (by omega)
    simpa using this
  have cS : Calls Try.prog 24 #[.slice (some ⟨b, off, none⟩) (n - 4) c] (w.alloc objZ) fun e w' => e = .returned (.int .u32 ((sumOf f (n - 4) : Nat) : Int)) ∧ w' = w.alloc objZ := octet.refsum_any _ _ c f _ hr4
  have hx1 : (((octet.big (fun i => f (n - 4 + i)) 4 : Nat) : Int) == ((sumOf f (n - 4) : Nat) : Int)) = false := by simpa using fun q => hx (by omega)
  have hx2 : (((octet.big (fun i => f (n - 4 + i)) 4 : Nat) : Int) != ((sumOf f (n - 4) : Nat) : Int)) = true := by simpa using fun q => hx (by omega)
  generalize ((octet.big (fun i => f (n - 4 + i)) 4 : Nat) : Int) = X at *
  generalize ((sumOf f (n - 4) : Nat) : Int) = Y at *
  clear hr hr4 hx
  go_enter Try.func12, Try.ntmps12
  go_wp2_with (first
    | (go_at_call 31; (with_reducible refine cG.mono ?_); rintro e w1 ⟨rfl, hw1⟩; rw [hw1])
    | (go_at_call 24; (with_reducible refine cS.mono ?_); rintro e w2 ⟨rfl, hw2⟩; rw [hw2])
    | (refine wpList_store_row rfl 31 _ _ rfl w.heap.size _ rfl rfl _ _ hz.out infoW12 rfl (oneW zeroWi none 0) ?_))
  refine bodyPost_ret (results_w Try.results12 _ _ w.heap.size (zeroWi.cells none 0).toArray _ _ rfl rfl rfl rfl (setRow_heap _ _ _ _ _ _ hz.out)) rfl ⟨rfl, ?_⟩
  exact below_setRow hb (Nat.le_refl _) _
end
theorem rread_unfit (a : Option Addr) (n c : Nat) (f : Nat → Nat) (w : World) (hr : octet.Row w a n f) (hnc : n ≤ c) (hc : (c : Int) ≤ 9223372036854775807) (hu : (unfP f n).1 ≠ 0) : Calls Try.prog 12 #[.slice a n c] w fun e w' => e = .returned (.tuple #[.agg (zeroWi.cells none 0).toArray, .int .i64 (unfP f n).1, .int .i64 (unfP f n).2]) ∧ Below w.heap.size w w' := by
  have hf := hr.2.1
  unfold unfP at hu ⊢
  by_cases h1 : 65536 < n
  · rw [if_pos h1]
    exact rread_long a f n c (by omega)
  · rw [if_neg h1] at hu ⊢
    by_cases h2 : n < 4
    · rw [if_pos (by rw [Bool.eq_false_iff]; intro q; have := ((magB_four hf).mp q).1; omega)]
      exact rread_few a f n c (by omega) (by omega)
    · obtain ⟨b, off, rfl⟩ := row_addr hr (by omega)
      by_cases hm : magB f n = true
      · rw [if_neg (by rw [hm]; decide)] at hu ⊢
        obtain ⟨_, e0, e1, e2, e3⟩ := (magB_four hf).mp hm
        by_cases h3 : n < 12
        · rw [if_pos h3]
          exact rread_short b off f n c hr (by omega) (by omega) e0 e1 e2 e3 (by omega)
        · rw [if_neg h3] at hu ⊢
          by_cases hs : sumK f n = true
          · rw [if_neg (by rw [hs]; decide)] at hu
            exact absurd rfl hu
          · rw [if_pos (by simpa using hs)]
            exact rread_sum b off f n c hr (by omega) (by omega) e0 e1 e2 e3 (by omega) hnc hc (fun q => hs ((sumK_big hf (by omega)).mpr q))
      · rw [if_pos (by simpa using hm)]
        by_cases e0 : f 0 = 115
        · by_cases e1 : f 1 = 99
          · by_cases e2 : f 2 = 97
            · by_cases e3 : f 3 = 119
              · exact absurd ((magB_four hf).mpr ⟨by omega, e0, e1, e2, e3⟩) hm
              · exact rread_mag3 b off f n c hr (by omega) (by omega) e0 e1 e2 e3
            · exact rread_mag2 b off f n c hr (by omega) (by omega) e0 e1 e2
          · exact rread_mag1 b off f n c hr (by omega) (by omega) e0 e1
        · exact rread_mag0 b off f n c hr (by omega) (by omega) e0
end Go.Proofs.Ytikkgfmhnmoalaa.pg
/- The document's Read of bytes that fit: how it stands. -/
namespace Go.Proofs.Ytikkgfmhnmoalaa.pg
open Go.ChangeShapes Go.WideShapes Go.ChangeAt Go.RowKit
set_option linter.unusedVariables false
set_option linter.unusedSimpArgs false
set_option maxRecDepth 100000
/-- Cells of a block written over. -/
def setAll : Array Value → Nat → List Value → Array Value
  | cs, _, [] => cs
  | cs, o, v :: vs => setAll (cs.setIfInBounds o v) (o + 1) vs
theorem setCells_row {B : Nat} {t : TypeId} : ∀ (vs : List Value) (o : Nat) (W : World) (cs : Array Value) (v : Value), W.heap[B]? = some (.cells cs t (0, 0)) → W.setCells B o (v :: vs) = W.setRow B (setAll cs o (v :: vs))
  | [], o, W, cs, v, h => by simp only [World.setCells, setAll]; exact setCell_eq_setRow W B o _ _ _ v h
  | u :: vs, o, W, cs, v, h => by
    have e := setCells_row vs (o + 1) (W.setRow B (cs.setIfInBounds o v)) (cs.setIfInBounds o v) u (setRow_heap W B _ _ _ _ h)
    rw [World.setCells, setCell_eq_setRow W B o _ _ _ v h, e, setRow_setRow]
    rfl
theorem there_in {W : World} {B : Nat} {t : TypeId} {cs : Array Value} (h : W.heap[B]? = some (.cells cs t (0, 0))) {o k : Nat} (hk : o + k ≤ cs.size) : W.there B o k := fun j hj => ⟨by
  rw [cell_of_row W B (o + j) _ _ _ h, Array.getElem?_eq_getElem (by omega)]
  rfl, frozen_of_row _ _ _ _ _ h⟩
theorem ix11 (B : Nat) (k : Nat) (h : k < 11) : ∀ wx, (Instr.indexAt 82 (.pointer (some ⟨B, 0, none⟩)) (.int .i64 (k : Int))).run Try.prog wx = .ok (.pointer (some ⟨B, k, none⟩)) wx := by
  intro wx
  rw [run_indexAt_array _ _ _ _ _ (show Try.prog.underlying 82 = some (.array (Try.prog.arrayLen 82) (Try.prog.elem 82)) by kernel_rfl)]
  rw [show Try.prog.arrayLen 82 = 11 by kernel_rfl, show Try.prog.elem 82 = 3 by kernel_rfl]
  rw [if_pos (by omega), Try.sizeOf3 wx]
  simp only [Int.toNat_natCast]
  show Result.ok (Value.pointer (some ((⟨B, 0, none⟩ : Addr).add (k * 1)))) wx = _
  rw [add_none]
  simp
abbrev iC (v : Int) : Value := .int .i64 v
abbrev ob11 (arr : List Int) : Obj := .cells (arr.map iC).toArray 82
/-- How the document's Read stands: what it answers, its witness, its reader, its numbers. -/
structure RoS (w W : World) (b off n c z m r x : Nat) (M : Wi) (pa : Option Addr) (pc : Nat) (arr : List Int) (k : Nat) : Prop where
  hz : W.heap[z]? = some objZ
  hm : W.heap[m]? = some (objWi M pa pc)
  hr : octet.Rd W r 81 (.slice (some ⟨b, off, none⟩) (n - 4) c) ((8 + k : Nat) : Int)
  hx : W.heap[x]? = some (ob11 arr)
  hb : Below w.heap.size w W
/-- The blocks differ, and are the call's own. -/
structure Apart4 (w : World) (z m r x : Nat) : Prop where
  hz : w.heap.size ≤ z
  hm : z < m
  hr : m < r
  hx : r < x
section
variable {w W W' : World} {b off n c z m r x : Nat} {M : Wi} {pa : Option Addr} {pc : Nat} {arr : List Int} {k : Nat}
theorem RoS.later (h : RoS w W b off n c z m r x M pa pc arr k) (hb : Below W.heap.size W W') : RoS w W' b off n c z m r x M pa pc arr k :=
  ⟨(hb.block _ (Array.getElem?_eq_some_iff.mp h.hz).1).trans h.hz, (hb.block _ (Array.getElem?_eq_some_iff.mp h.hm).1).trans h.hm, h.hr.later hb, (hb.block _ (Array.getElem?_eq_some_iff.mp h.hx).1).trans h.hx, bthen h.hb hb⟩
theorem RoS.read (h : RoS w W b off n c z m r x M pa pc arr k) (q : Apart4 w z m r x) (d : Nat) (k' : Nat) : RoS w ((W.drewN d).setCell ⟨r, 1, none⟩ (.int .i64 ((8 + k' : Nat) : Int))) b off n c z m r x M pa pc arr k' := by
  have q1 := q.hz; have q2 := q.hm; have q3 := q.hr; have q4 := q.hx
  exact ⟨(heap_setCell_other _ _ _ _ (by show z ≠ r; omega)).trans h.hz, (heap_setCell_other _ _ _ _ (by show m ≠ r; omega)).trans h.hm, octet.Rd.set (octet.Rd.drewN h.hr d) _, (heap_setCell_other _ _ _ _ (by show x ≠ r; omega)).trans h.hx, (below_drewN h.hb d).setCell (p := ⟨r, 1, none⟩) (by show _ ≤ r; omega) _⟩
theorem RoS.put (h : RoS w W b off n c z m r x M pa pc arr k) (q : Apart4 w z m r x) (i : Nat) (v : Int) : RoS w (W.setCell ⟨x, i, none⟩ (.int .i64 v)) b off n c z m r x M pa pc (arr.set i v) k := by
  have q1 := q.hz; have q2 := q.hm; have q3 := q.hr; have q4 := q.hx
  refine ⟨(heap_setCell_other _ _ _ _ (by show z ≠ x; omega)).trans h.hz, (heap_setCell_other _ _ _ _ (by show m ≠ x; omega)).trans h.hm, h.hr.other (by omega) _ _, ?_, h.hb.setCell (p := ⟨x, i, none⟩) (by show _ ≤ x; omega) _⟩
  rw [heap_setCell_same W x i _ _ _ h.hx]
  show _ = some (Obj.cells ((arr.set i v).map iC).toArray 82)
  rw [List.map_set]
  simp
theorem RoS.row (h : RoS w W b off n c z m r x M pa pc arr k) {f : Nat → Nat} (hr : octet.Row w (some ⟨b, off, none⟩) n f) : octet.Row W (some ⟨b, off, none⟩) (n - 4) f := by
  have := row_part (hr.later h.hb) 0 (n - 4) (by omega)
  simpa using this
theorem RoS.cell (h : RoS w W b off n c z m r x M pa pc arr k) {i : Nat} {v : Int} (hv : arr[i]? = some v) : W.cell? ⟨x, i, none⟩ = some (.int .i64 v) := by
  rw [cell_of_row W x i _ _ _ h.hx]
  simp [hv]
theorem RoS.fz (h : RoS w W b off n c z m r x M pa pc arr k) (i : Nat) : W.frozen? ⟨x, i, none⟩ = false := frozen_of_row _ _ _ _ _ h.hx
end
section
variable {w W W' : World} {b off n c z m r x : Nat} {M : Wi} {pa : Option Addr} {pc : Nat} {arr : List Int} {k : Nat}
theorem RoS.xlt (h : RoS w W b off n c z m r x M pa pc arr k) : x < W.heap.size := (Array.getElem?_eq_some_iff.mp h.hx).1
theorem RoS.m8 (h : RoS w W b off n c z m r x M pa pc arr k) : W.cell? ⟨m, 8, none⟩ = some (.slice pa M.pk.length pc) := by
  rw [cell_of_row W m 8 _ _ _ h.hm]
  rfl
theorem RoS.fzm (h : RoS w W b off n c z m r x M pa pc arr k) (i : Nat) : W.frozen? ⟨m, i, none⟩ = false := frozen_of_row _ _ _ _ _ h.hm
/-- Cells of its witness written over. -/
theorem RoS.fill (h : RoS w W b off n c z m r x M pa pc arr k) (q : Apart4 w z m r x) (o : Nat) (v : Value) (vs : List Value) (M' : Wi) (he : setAll (M.cells pa pc).toArray o (v :: vs) = (M'.cells pa pc).toArray) : RoS w (W.setCells m o (v :: vs)) b off n c z m r x M' pa pc arr k := by
  have q1 := q.hz; have q2 := q.hm; have q3 := q.hr; have q4 := q.hx
  rw [setCells_row vs o W _ v h.hm, he]
  exact ⟨(setRow_other _ _ _ _ (by omega)).trans h.hz, setRow_heap _ _ _ _ _ _ h.hm, (setRow_other _ _ _ _ (by omega)).trans h.hr, (setRow_other _ _ _ _ (by omega)).trans h.hx, below_setRow h.hb (by omega) _⟩
/-- Nothing beneath changed. -/
theorem RoS.under (h : RoS w W b off n c z m r x M pa pc arr k) (q : Apart4 w z m r x) (N : Nat) (hN : x < N) (hb : Below N W W') : RoS w W' b off n c z m r x M pa pc arr k := by
  have q1 := q.hz; have q2 := q.hm; have q3 := q.hr; have q4 := q.hx
  exact ⟨(hb.block _ (by omega)).trans h.hz, (hb.block _ (by omega)).trans h.hm, (hb.block _ (by omega)).trans h.hr, (hb.block _ (by omega)).trans h.hx, h.hb.trans (hb.mono (by omega))⟩
/-- Its picks laid elsewhere. -/
theorem RoS.setpk (h : RoS w W b off n c z m r x M pa pc arr k) (q : Apart4 w z m r x) (pa' : Option Addr) (pc' : Nat) (l : List (Int × Int)) : RoS w (W.setCell ⟨m, 8, none⟩ (.slice pa' l.length pc')) b off n c z m r x { M with pk := l } pa' pc' arr k := by
  have q1 := q.hz; have q2 := q.hm; have q3 := q.hr; have q4 := q.hx
  exact ⟨(heap_setCell_other _ _ _ _ (by show z ≠ m; omega)).trans h.hz, (heap_setCell_same W m 8 _ _ _ h.hm).trans rfl, h.hr.other (by omega) _ _, (heap_setCell_other _ _ _ _ (by show x ≠ m; omega)).trans h.hx, h.hb.setCell (p := ⟨m, 8, none⟩) (by show _ ≤ m; omega) _⟩
theorem RoS.relen (h : RoS w W b off n c z m r x M pa pc arr k) (l : List (Int × Int)) (hl : l.length = M.pk.length) : RoS w W b off n c z m r x { M with pk := l } pa pc arr k :=
  ⟨h.hz, by rw [h.hm]; unfold objWi Wi.cells; rw [hl], h.hr, h.hx, h.hb⟩
end
/-- How it stands while it reads what comes ahead of the picks: the bounds lie there besides. -/
structure Ro1 (w W : World) (b off n c z m r x : Nat) (M : Wi) (arr : List Int) (k B : Nat) : Prop where
  s : RoS w W b off n c z m r x M none 0 arr k
  o : Rows W 1 (some ⟨B, 0, none⟩) 11 (mostL.map u64C)
section
variable {w W W' : World} {b off n c z m r x : Nat} {M : Wi} {arr : List Int} {k B : Nat}
theorem rows_cell {W : World} {k B : Nat} {cap : Nat} {L : List (List Value)} (h : Rows W k (some ⟨B, 0, none⟩) cap L) {C i : Nat} {v : Value} (hC : B ≠ C) : Rows (W.setCell ⟨C, i, none⟩ v) k (some ⟨B, 0, none⟩) cap L := by
  refine ⟨h.1, h.2.1, h.2.2.1, ?_⟩
  rcases h.2.2.2 with q | ⟨g, o, q, hg, hc⟩
  · exact .inl q
  · refine .inr ⟨g, o, q, by rw [World.size_setCell]; exact hg, fun i row hi => ⟨(hc i row hi).1, fun j u hj => ?_⟩⟩
    simp only [Option.some.injEq, Addr.mk.injEq] at q
    rw [← (hc i row hi).2 j u hj]
    exact World.cell?_setCell_far _ _ _ _ (by show C ≠ g; omega)
theorem Ro1.later (h : Ro1 w W b off n c z m r x M arr k B) (hb : Below W.heap.size W W') : Ro1 w W' b off n c z m r x M arr k B := ⟨h.s.later hb, h.o.later hb⟩
theorem Ro1.read (h : Ro1 w W b off n c z m r x M arr k B) (q : Apart4 w z m r x) (hB : x < B) (d k' : Nat) : Ro1 w ((W.drewN d).setCell ⟨r, 1, none⟩ (.int .i64 ((8 + k' : Nat) : Int))) b off n c z m r x M arr k' B :=
  ⟨h.s.read q d k', rows_cell (h.o.later (bel_drewN W d)) (by have := q.hx; omega)⟩
theorem Ro1.put (h : Ro1 w W b off n c z m r x M arr k B) (q : Apart4 w z m r x) (hB : x < B) (i : Nat) (v : Int) : Ro1 w (W.setCell ⟨x, i, none⟩ (.int .i64 v)) b off n c z m r x M (arr.set i v) k B :=
  ⟨h.s.put q i v, rows_cell h.o (by omega)⟩
end
theorem flatten_setW {k : Nat} : ∀ (L : List (List Value)), (∀ row ∈ L, row.length = k) → ∀ (i : Nat) (row : List Value), L[i]? = some row → ∀ (j : Nat) (v : Value), j < k → (L.set i (row.set j v)).flatten = L.flatten.set (i * k + j) v
  | [], _, i, row, h, _, _, _ => by simp at h
  | r :: t, hk, 0, row, h, j, v, hj => by
    simp at h
    subst h
    have hr := hk r (by simp)
    simp only [List.set_cons_zero, List.flatten_cons, Nat.zero_mul, Nat.zero_add]
    rw [List.set_append_left _ _ (by omega)]
  | r :: t, hk, i + 1, row, h, j, v, hj => by
    simp at h
    have hr := hk r (by simp)
    have ih := flatten_setW t (fun q hq => hk q (by simp [hq])) i row h j v hj
    simp only [List.set_cons_succ, List.flatten_cons, ih]
    rw [List.set_append_right _ _ (by rw [hr, Nat.succ_mul]; omega), hr]
    congr 2
    rw [Nat.succ_mul]; omega
theorem own_cellset {w : World} {lo e k : Nat} {g cap : Nat} {L : List (List Value)} (h : OwnL w lo e k (some ⟨g, 0, none⟩) cap L) (hk : ∀ row ∈ L, row.length = k) (i : Nat) (row : List Value) (hi : L[i]? = some row) (j : Nat) (hj : j < k) (v : Value) :
    OwnL (w.setCell ⟨g, i * k + j, none⟩ v) lo e k (some ⟨g, 0, none⟩) cap (L.set i (row.set j v)) := by
  have hfl := flatten_setW L hk i row hi j v hj
  refine ⟨by rw [hfl, List.length_set, List.length_set]; exact h.1, ?_⟩
  rcases h.2 with ⟨q, _⟩ | ⟨g', cap', cur, q, hb, hg, h1, h2, h3, h4⟩
  · simp at q
  · simp only [Value.slice.injEq, Option.some.injEq, Addr.mk.injEq] at q
    obtain ⟨⟨rfl, _⟩, _, rfl⟩ := q
    refine .inr ⟨g, cap, cur.setIfInBounds (i * k + j) v, by rw [List.length_set], hb, heap_setCell_same w g _ cur e v hg, by rw [List.length_set]; exact h1, h2, by rw [Array.size_setIfInBounds]; exact h3, ?_⟩
    rw [hfl, ← h4, List.length_set, Array.toList_setIfInBounds, List.take_set]
theorem pick_at (g n cap i : Nat) (h : i < n) : ∀ wx, (Instr.indexAt 27 (.slice (some ⟨g, 0, none⟩) n cap) (.int .i64 (i : Int))).run Try.prog wx = .ok (.pointer (some ⟨g, i * 2, none⟩)) wx := by
  intro wx
  rw [run_indexAt_slice wx 27 ⟨g, 0, none⟩ _ _ _ _ Try.underlying27, if_pos (by omega), show Try.prog.elem 27 = 66 by kernel_rfl, Try.sizeOf66 wx]
  simp only [Int.toNat_natCast]
  show Result.ok (Value.pointer (some ((⟨g, 0, none⟩ : Addr).add (i * 2)))) wx = _
  rw [add_none]
  simp
abbrev obRd (b off n c : Nat) : Obj := .cells #[.slice (some ⟨b, off, none⟩) (n - 4) c, .int .i64 8] 81
abbrev obSm (S : Nat) : Obj := .cells #[.int .u32 (S : Int), .int .i64 0, .int .i64 0, .int .i64 0, .int .i64 0, .int .i64 0, .int .i64 0, .int .i64 0, .slice none 0 0, .int .i64 0, .int .i64 0, .int .i64 0] 31
theorem ros_start {w : World} (b off n c : Nat) (S : Nat) : RoS w ((((w.alloc objZ).alloc (obSm S)).alloc (obRd b off n c)).alloc (ob11 (List.replicate 11 0))) b off n c w.heap.size (w.heap.size + 1) (w.heap.size + 1 + 1) (w.heap.size + 1 + 1 + 1) (fillW (S : Int) []) none 0 (List.replicate 11 0) 0 := by
  have s1 : (w.alloc objZ).heap.size = w.heap.size + 1 := World.size_alloc ..
  have a1 := heap_alloc_new w objZ
  have a2 := heap_alloc_new (w.alloc objZ) (obSm S)
  rw [s1] at a2
  have b1 := boxed w objZ
  have b2 := boxed (w.alloc objZ) (obSm S)
  obtain ⟨W, hW⟩ : ∃ W, (w.alloc objZ).alloc (obSm S) = W := ⟨_, rfl⟩
  have s3 : W.heap.size = w.heap.size + 1 + 1 := by rw [← hW, World.size_alloc, s1]
  have c1 : W.heap[w.heap.size]? = some objZ := by rw [← hW]; exact (b2.block _ (by omega)).trans a1
  have c2 : W.heap[w.heap.size + 1]? = some (objWi (fillW (S : Int) []) none 0) := by rw [← hW]; exact a2.trans rfl
  have c3 : Below w.heap.size w W := by rw [← hW]; exact bthen b1 b2
  rw [hW]
  have b3 := boxed W (obRd b off n c)
  have b4 := boxed (W.alloc (obRd b off n c)) (ob11 (List.replicate 11 0))
  have s4 : (W.alloc (obRd b off n c)).heap.size = w.heap.size + 1 + 1 + 1 := by rw [World.size_alloc, s3]
  have a3 := heap_alloc_new W (obRd b off n c)
  have a4 := heap_alloc_new (W.alloc (obRd b off n c)) (ob11 (List.replicate 11 0))
  rw [s3] at a3
  rw [s4] at a4
  exact ⟨(b4.block _ (by omega)).trans ((b3.block _ (by omega)).trans c1), (b4.block _ (by omega)).trans ((b3.block _ (by omega)).trans c2), (b4.block _ (by omega)).trans a3, a4, bthen c3 (bthen b3 b4)⟩
theorem gotten_le {f : Nat → Nat} (hf : ∀ i, f i < 256) {n k : Nat} {X E : Int} (h : octet.gotten f n (k : Int) = (X, E, 0)) : E.toNat ≤ n := by
  obtain ⟨x, _, hx, hE, hH⟩ := gotten_once hf h
  have h1 := hH.1
  have h2 : (putB x).length = octet.szN x := by simp [putB]
  omega
theorem set_next (vs : List Int) (i : Nat) (h : vs.length = i) (hi : i < 11) (X : Int) : (vs ++ List.replicate (11 - i) 0).set i X = (vs ++ [X]) ++ List.replicate (11 - (i + 1)) 0 := by
  subst h
  rw [List.set_append_right _ _ (Nat.le_refl _), Nat.sub_self, show 11 - vs.length = (11 - (vs.length + 1)) + 1 by omega, List.replicate_succ, List.set_cons_zero]
  simp
theorem own_cell {w : World} {lo e k : Nat} {g cap : Nat} {L : List (List Value)} (h : OwnL w lo e k (some ⟨g, 0, none⟩) cap L) (hk : ∀ row ∈ L, row.length = k) (i : Nat) (row : List Value) (hi : L[i]? = some row) (j : Nat) (v : Value) (hj : row[j]? = some v) : w.cell? ⟨g, i * k + j, none⟩ = some v ∧ w.frozen? ⟨g, i * k + j, none⟩ = false := by
  have hrk := hk row (List.mem_of_getElem? hi)
  have hjk : j < k := by have := (List.getElem?_eq_some_iff.mp hj).1; omega
  have hil : i < L.length := (List.getElem?_eq_some_iff.mp hi).1
  have hlt : i * k + j < L.length * k := by
    have : (i + 1) * k ≤ L.length * k := Nat.mul_le_mul_right k hil
    rw [Nat.add_mul] at this
    omega
  refine ⟨by rw [World.ownsRow.cellAt h (i * k + j) hlt, flatten_at L hk i row hi j hjk, hj], ?_⟩
  rcases h.2 with ⟨h1, h2⟩ | ⟨g', cap', cur, h1, hb, hg, _⟩
  · simp at h1
  · simp only [Value.slice.injEq, Option.some.injEq, Addr.mk.injEq] at h1
    obtain ⟨⟨rfl, _⟩, _⟩ := h1
    exact frozen_of_row _ _ _ _ _ hg
theorem own_far {w : World} {lo e k : Nat} {a : Option Addr} {cap : Nat} {L : List (List Value)} (h : OwnL w lo e k a cap L) {C i : Nat} {v : Value} (hC : C < lo) : OwnL (w.setCell ⟨C, i, none⟩ v) lo e k a cap L := own_keep h fun g hg => by
  have := (blk_lt h g hg).1
  exact heap_setCell_other _ _ _ _ (by show g ≠ C; omega)
theorem cell_keepW {w w' : World} {b o : Nat} {u : Value} (h : w.cell? ⟨b, o, none⟩ = some u) (hk : w'.heap[b]? = w.heap[b]?) : w'.cell? ⟨b, o, none⟩ = some u := by
  rw [World.cell?] at h ⊢
  simp only [hk]
  exact h
end Go.Proofs.Ytikkgfmhnmoalaa.pg
/- The document's Read of bytes that fit: the walk. -/
namespace Go.Proofs.Ytikkgfmhnmoalaa.pg
open Go.ChangeShapes Go.WideShapes Go.ChangeAt Go.RowKit
set_option linter.unusedVariables false
set_option linter.unusedSimpArgs false
set_option maxRecDepth 100000
section
variable {w : World}
set_option maxHeartbeats 16000000 in
theorem rread_fit (b off n c : Nat) (f : Nat → Nat) (hr : octet.Row w (some ⟨b, off, none⟩) n f) (h1 : (n : Int) ≤ 65536) (h2 : (4 : Int) ≤ n) (e0 : f 0 = 115) (e1 : f 1 = 99) (e2 : f 2 = 97) (e3 : f 3 = 119) (h3 : (12 : Int) ≤ n) (hnc : n ≤ c) (hc : (c : Int) ≤ 9223372036854775807) (hx : octet.big (fun i => f (n - 4 + i)) 4 = sumOf f (n - 4)) (hu : (unfP f n).1 = 0) : Calls Try.prog 12 #[.slice (some ⟨b, off, none⟩) n c] w fun e w' => Below w.heap.size w w' ∧ ((rdE f n).1 ≠ 0 → e = .returned (.tuple #[.agg (zeroWi.cells none 0).toArray, .int .i64 (rdE f n).1, .int .i64 (rdE f n).2])) ∧ ((rdE f n).1 = 0 → ∃ pk pa pc, e = .returned (.tuple #[.agg ({ rdM f n with pk := pk }.cells pa pc).toArray, .int .i64 0, .int .i64 0]) ∧ Rows w' 2 pa pc (pk.map pkC) ∧ pk.flatMap (fun p => [p.1, p.2]) = (rdP (partF f) (n - 12) (rdL (partF f) (n - 12) headB 0 0).at_ (rdL (partF f) (n - 12) headB 0 0).k).vs) := by
  have hb := boxed w objZ
  have hz : Hid ((w.alloc objZ).heap[w.heap.size]? = some objZ) := heap_alloc_new _ _
  have ix0 : ∀ wx, (Instr.indexAt 32 (.slice (some ⟨b, off, none⟩) n c) (.int .i64 0)).run Try.prog wx = .ok (.pointer (some ⟨b, off, none⟩)) wx := u8_off b off n c 0 (by omega)
  have ix1 : ∀ wx, (Instr.indexAt 32 (.slice (some ⟨b, off, none⟩) n c) (.int .i64 1)).run Try.prog wx = .ok (.pointer (some ⟨b, off + 1, none⟩)) wx := u8_off b off n c 1 (by omega)
  have ix2 : ∀ wx, (Instr.indexAt 32 (.slice (some ⟨b, off, none⟩) n c) (.int .i64 2)).run Try.prog wx = .ok (.pointer (some ⟨b, off + 2, none⟩)) wx := u8_off b off n c 2 (by omega)
  have ix3 : ∀ wx, (Instr.indexAt 32 (.slice (some ⟨b, off, none⟩) n c) (.int .i64 3)).run Try.prog wx = .ok (.pointer (some ⟨b, off + 3, none⟩)) wx := u8_off b off n c 3 (by omega)
  have c0 : (w.alloc objZ).cell? ⟨b, off, none⟩ = some (.int .u8 115) := (row_at (hr.later hb) 0 (by omega)).trans (by rw [e0]; rfl)
  have c1 : (w.alloc objZ).cell? ⟨b, off + 1, none⟩ = some (.int .u8 99) := (row_at (hr.later hb) 1 (by omega)).trans (by rw [e1]; rfl)
  have c2 : (w.alloc objZ).cell? ⟨b, off + 2, none⟩ = some (.int .u8 97) := (row_at (hr.later hb) 2 (by omega)).trans (by rw [e2]; rfl)
  have c3 : (w.alloc objZ).cell? ⟨b, off + 3, none⟩ = some (.int .u8 119) := (row_at (hr.later hb) 3 (by omega)).trans (by rw [e3]; rfl)
  have cG : Calls Try.prog 31 #[.slice (some ⟨b, off, none⟩) n c, .int .i64 ((n : Int) - 4)] (w.alloc objZ) fun e w' => e = .returned (.tuple #[.int .u32 ((octet.big (fun i => f (n - 4 + i)) 4 : Nat) : Int), .int .i64 (((n - 4 : Nat) : Int) + 4), .int .i64 0]) ∧ w' = w.alloc objZ := by
    have := octet.refgetfix_walk (some ⟨b, off, none⟩) n c (n - 4) f (w.alloc objZ) (hr.later hb) (by omega) (by omega) _ rfl
    rwa [show ((n - 4 : Nat) : Int) = (n : Int) - 4 by omega] at this ⊢
  have cut : ∀ wx, (Instr.sliceAt 32 (.slice (some ⟨b, off, none⟩) n c) none (some (.int .i64 ((n : Int) - 4))) none).run Try.prog wx = .ok (.slice (some ⟨b, off, none⟩) (n - 4) c) wx := fun wx => by
    have := cut_hi b off n c (n - 4) (by omega) hc wx
    rwa [show ((n - 4 : Nat) : Int) = (n : Int) - 4 by omega] at this
  have hr4 : octet.Row (w.alloc objZ) (some ⟨b, off, none⟩) (n - 4) f := by
    have := row_part (hr.later hb) 0 (n - 4) (by omega)
    simpa using this
  have cS : Calls Try.prog 24 #[.slice (some ⟨b, off, none⟩) (n - 4) c] (w.alloc objZ) fun e w' => e = .returned (.int .u32 ((sumOf f (n - 4) : Nat) : Int)) ∧ w' = w.alloc objZ := octet.refsum_any _ _ c f _ hr4
  rw [hx] at cG
  generalize ((sumOf f (n - 4) : Nat) : Int) = Y at *
  have hz2 : Hid (((w.alloc objZ).alloc objZ).heap[w.heap.size + 1]? = some objZ) := by have := heap_alloc_new (w.alloc objZ) objZ; rwa [World.size_alloc] at this
  have hb2 := boxed (w.alloc objZ) objZ
  have cG2 : Calls Try.prog 31 #[.slice (some ⟨b, off, none⟩) n c, .int .i64 4] ((w.alloc objZ).alloc objZ) fun e w' => e = .returned (.tuple #[.int .u32 ((sumW f : Nat) : Int), .int .i64 8, .int .i64 0]) ∧ w' = (w.alloc objZ).alloc objZ := octet.refgetfix_walk (some ⟨b, off, none⟩) n c 4 f _ ((hr.later hb).later hb2) (by omega) (by omega) _ rfl
  obtain ⟨S, hS⟩ : ∃ S, S = sumW f := ⟨_, rfl⟩
  rw [← hS] at cG2
  replace hS : Hid (S = sumW f) := hS
  have cB : ∀ wx, Calls Try.prog 32 #[] wx fun e w' => ∃ B, e = .returned (.slice (some ⟨B, 0, none⟩) 11 11) ∧ Hid (B = wx.heap.size) ∧ Rows w' 1 (some ⟨B, 0, none⟩) 11 (mostL.map u64C) ∧ Below wx.heap.size wx w' := fun wx => (bounds_any wx).mono fun e w' h => ⟨_, h.1, rfl, h.2⟩
  have fz0 : ((w.alloc objZ).alloc objZ).frozen? ⟨w.heap.size + 1, 0, none⟩ = false := frozen_of_row _ _ _ _ _ hz2.out
  have k0 : ((w.alloc objZ).alloc objZ).cell? ⟨w.heap.size + 1, 0, none⟩ = some (.int .u32 0) := (cell_of_row _ _ 0 _ _ _ hz2.out).trans rfl
  have hrH : Hid (octet.Row w (some ⟨b, off, none⟩) n f) := hr
  have hnb : Hid (n ≤ c) := hnc
  clear hr hr4 hnc
  go_enter Try.func12, Try.ntmps12
  go_wp2_with (first
    | (go_at_call 31; first
        | ((with_reducible refine cG.mono ?_); rintro e w1 ⟨rfl, hw1⟩; rw [hw1])
        | ((with_reducible refine cG2.mono ?_); rintro e w1 ⟨rfl, hw1⟩; rw [hw1]))
    | (go_at_call 24; (with_reducible refine cS.mono ?_); rintro e w2 ⟨rfl, hw2⟩; rw [hw2])
    | (go_at_call 32; (with_reducible refine (cB _).mono ?_); rintro e w5 ⟨B, rfl, hB5, hm5, hb5⟩))
  have hq : Apart4 w w.heap.size (w.heap.size + 1) (w.heap.size + 1 + 1) (w.heap.size + 1 + 1 + 1) := ⟨Nat.le_refl _, by omega, by omega, by omega⟩
  have hs0 : Hid (Ro1 w w5 b off n c w.heap.size (w.heap.size + 1) (w.heap.size + 1 + 1) (w.heap.size + 1 + 1 + 1) (fillW (S : Int) []) (List.replicate 11 0) 0 B) := ⟨(ros_start b off n c S).later hb5, hm5⟩
  have hxB : Hid (w.heap.size + 1 + 1 + 1 < B) := by
    show _ < _
    rw [hB5.out]
    simp only [World.size_alloc, World.size_setCell]
    omega
  clear hm5 hb5 hB5 cB cS cG cG2 k0 fz0 hz hz2 hb hb2 c0 c1 c2 c3 ix0 ix1 ix2 ix3 cut
  have hpf : ∀ i, partF f i < 256 := fun i => hrH.out.2.1 _
  generalize w.heap.size + 1 + 1 + 1 = x at *
  generalize w.heap.size + 1 + 1 = r at *
  generalize w.heap.size + 1 = m at *
  go_loopw [95] (fun u wr => ∃ (i k : Nat) (vs : List Int), i ≤ 11 ∧ u = .int .i64 (i : Int) ∧ k ≤ n - 12 ∧ Hid (vs.length = i ∧ (rdL (partF f) (n - 12) (allB.take i) 0 0).e = 0 ∧ (rdL (partF f) (n - 12) (allB.take i) 0 0).vs = vs ∧ (rdL (partF f) (n - 12) (allB.take i) 0 0).k = k) ∧ Hid (Ro1 w wr b off n c w.heap.size m r x (fillW (S : Int) []) (vs ++ List.replicate (11 - i) 0) k B)) (fun u _ => 11 - (intOf u).toNat)
  case atStart => exact ⟨0, 0, [], by omega, rfl, Nat.zero_le _, ⟨rfl, rfl, rfl, rfl⟩, hs0.out⟩
  case round =>
    clear hs0
    obtain ⟨i, k, vs, hi, rfl, hk, hv, hs⟩ := hrel
    by_cases hlt : i < 11
    · have hiI : (i : Int) < 11 := by omega
      obtain ⟨mo, hb1, hmo, m0, m1⟩ := all_at i hlt
      obtain ⟨b1, o1, ix1, _, c1⟩ := u64_ix hs.out.o i mo hmo
      have ix1' : ∀ wx, (Instr.indexAt 83 (.slice (some ⟨B, 0, none⟩) 11 11) (.int .i64 (i : Int))).run Try.prog wx = .ok (.pointer (some ⟨b1, o1, none⟩)) wx := ix1
      clear ix1
      obtain ⟨P, hP⟩ : ∃ P : Nat, P = 8 + k := ⟨_, rfl⟩
      have cR : wr.cell? ⟨r, 1, none⟩ = some (.int .i64 (P : Int)) := by rw [hP]; exact hs.out.s.hr.c1
      obtain ⟨X, E, R, hG⟩ : ∃ X E R, octet.gotten (partF f) (n - 12) (k : Int) = (X, E, R) := ⟨_, _, _, rfl⟩
      obtain ⟨hX0, hE0, hR0⟩ := gotten_nat hG
      have hG' := gotten_part (by omega) hk hG
      have hn8 : 8 + k ≤ n - 4 := by omega
      have hrow := hs.out.s.row hrH.out
      have hGv : octet.gotten (partF f) (n - 12) ((rdL (partF f) (n - 12) (allB.take i) 0 0).k : Int) = (X, E, R) := by rw [hv.out.2.2.2]; exact hG
      by_cases hR : R = 0
      · subst hR
        have hG2 : octet.gotten f (n - 4) ((8 + k : Nat) : Int) = (X, 8 + E, 0) := by rw [if_pos rfl] at hG'; exact hG'
        have hsP : Hid (∀ d, Ro1 w ((wr.drewN d).setCell ⟨r, 1, none⟩ (.int .i64 ((8 + E.toNat : Nat) : Int))) b off n c w.heap.size m r x (fillW (S : Int) []) (vs ++ List.replicate (11 - i) 0) E.toNat B) := fun d => hs.out.read hq hxB.out d _
        have hsR : Hid (∀ d, Ro1 w ((wr.drewN d).setCell ⟨r, 1, none⟩ (.int .i64 (8 + E))) b off n c w.heap.size m r x (fillW (S : Int) []) (vs ++ List.replicate (11 - i) 0) E.toNat B) := fun d => by
          have := hsP.out d
          rwa [show ((8 + E.toNat : Nat) : Int) = 8 + E by omega] at this
        clear hG'
        by_cases hXm : X ≤ mo
        · by_cases hi0 : i = 0
          · have hi1 : ((i : Int) == 0) = true := by simp [hi0]
            by_cases h0 : X = 0
            · have hX1 : (X == 0) = true := by simp [h0]
              have cU : Calls Try.prog 33 #[.pointer (some ⟨r, 0, none⟩)] wr _ := octet.refuint_ok r (some ⟨b, off, none⟩) (n - 4) c (8 + k) f wr hs.out.s.hr hrow X _ hG2 hn8
              have hE : Hid (rdE f n = (1, (P : Int))) := by
                obtain ⟨e1, e2⟩ := rdL_next_bad hb1 hv.out.2.1 hGv (by rw [if_pos hi0]; unfold capI; omega)
                show _ = _
                rw [rdE_head hu (by unfold rdA; rw [e1]; exact by decide)]
                unfold rdA
                rw [e1, e2, hv.out.2.2.2, hP]
                congr 1
              clear hi0 h0 hs hv hG hG2 hGv hrow hE0 hP hsP
              go_wp2_with (first
                | (go_at_call 33; (with_reducible refine cU.mono ?_); rintro e w1 ⟨rfl, d, hw1⟩; (have hs1 : Hid (Ro1 w w1 b off n c w.heap.size m r x (fillW (S : Int) []) (vs ++ List.replicate (11 - i) 0) E.toNat B) := by rw [hw1]; exact hsR.out d); (have hz1 : Hid (w1.heap[w.heap.size]? = some objZ) := hs1.out.s.hz); (have hbl1 : Hid (Below w.heap.size w w1) := hs1.out.s.hb); clear hw1)
                | (refine wpList_store_row rfl 31 _ _ rfl w.heap.size _ rfl rfl _ _ hz1.out infoW12 rfl (oneW zeroWi none 0) ?_))
              refine bodyPost_ret (results_w Try.results12 _ _ w.heap.size (zeroWi.cells none 0).toArray (.int .i64 1) (.int .i64 (P : Int)) rfl rfl rfl rfl (setRow_heap _ _ _ _ _ _ hz1.out)) rfl ⟨below_setRow hbl1.out (Nat.le_refl _) _, fun _ => ?_, fun q => ?_⟩
              · rw [hE.out]
              · rw [hE.out] at q
                exact absurd (show (1 : Int) = 0 from q) (by decide)
            · have hX1 : (X == 0) = false := by simpa using h0
              have cU : Calls Try.prog 33 #[.pointer (some ⟨r, 0, none⟩)] wr _ := octet.refuint_ok r (some ⟨b, off, none⟩) (n - 4) c (8 + k) f wr hs.out.s.hr hrow X _ hG2 hn8
              have hcap : capI X = X := cap_same m1 hXm
              have hnx := rdL_next_ok hb1 hv.out.2.1 hGv (by rw [hcap]; exact ⟨by rw [if_pos hi0]; omega, hXm⟩)
              rw [hcap] at hnx
              have hEn : E.toNat ≤ n - 12 := gotten_le hpf hG
              have hnew : Hid ((vs ++ [X]).length = i + 1 ∧ (rdL (partF f) (n - 12) (allB.take (i + 1)) 0 0).e = 0 ∧ (rdL (partF f) (n - 12) (allB.take (i + 1)) 0 0).vs = vs ++ [X] ∧ (rdL (partF f) (n - 12) (allB.take (i + 1)) 0 0).k = E.toNat) := ⟨by rw [List.length_append, hv.out.1]; rfl, by rw [hnx], by rw [hnx, hv.out.2.2.1], by rw [hnx]⟩
              have hvl : Hid (vs.length = i) := hv.out.1
              have hlen : Hid (i < (vs ++ List.replicate (11 - i) (0 : Int)).length) := by show _ < _; rw [List.length_append, List.length_replicate, hv.out.1]; omega
              have hXk : X ≤ 65536 := by omega
              have ixx := ix11 x i hlt
              clear hi0 h0 hs hv hG hG2 hGv hrow hE0 hP hnx hcap hlt
              go_wp2_with ((go_at_call 33; (with_reducible refine cU.mono ?_); rintro e w1 ⟨rfl, d, hw1⟩; (have hs1 : Hid (Ro1 w w1 b off n c w.heap.size m r x (fillW (S : Int) []) (vs ++ List.replicate (11 - i) 0) E.toNat B) := by rw [hw1]; exact hsR.out d); (have hz1 : Hid (w1.heap[w.heap.size]? = some objZ) := hs1.out.s.hz); (have hbl1 : Hid (Below w.heap.size w w1) := hs1.out.s.hb); clear hw1; (have fzx : w1.frozen? ⟨x, i, none⟩ = false := hs1.out.s.fz i); (obtain ⟨y0, hy0⟩ : ∃ y, w1.cell? ⟨x, i, none⟩ = some (.int .i64 y) := ⟨_, hs1.out.s.cell (List.getElem?_eq_getElem hlen.out)⟩)))
              go_roundw
              case rel => exact ⟨i + 1, E.toNat, vs ++ [X], by omega, by go_num, hEn, hnew.out, by (show Ro1 _ _ _ _ _ _ _ _ _ _ _ _ _ _); rw [← set_next vs i hvl.out (by omega) X]; exact hs1.out.put hq hxB.out i X⟩
              case measure => simp [intOf]; omega
          · have hi1 : ((i : Int) == 0) = false := by simpa using hi0
            have cU : Calls Try.prog 33 #[.pointer (some ⟨r, 0, none⟩)] wr _ := octet.refuint_ok r (some ⟨b, off, none⟩) (n - 4) c (8 + k) f wr hs.out.s.hr hrow X _ hG2 hn8
            have hcap : capI X = X := cap_same m1 hXm
            have hnx := rdL_next_ok hb1 hv.out.2.1 hGv (by rw [hcap]; exact ⟨by rw [if_neg hi0]; exact hX0, hXm⟩)
            rw [hcap] at hnx
            have hEn : E.toNat ≤ n - 12 := gotten_le hpf hG
            have hnew : Hid ((vs ++ [X]).length = i + 1 ∧ (rdL (partF f) (n - 12) (allB.take (i + 1)) 0 0).e = 0 ∧ (rdL (partF f) (n - 12) (allB.take (i + 1)) 0 0).vs = vs ++ [X] ∧ (rdL (partF f) (n - 12) (allB.take (i + 1)) 0 0).k = E.toNat) := ⟨by rw [List.length_append, hv.out.1]; rfl, by rw [hnx], by rw [hnx, hv.out.2.2.1], by rw [hnx]⟩
            have hvl : Hid (vs.length = i) := hv.out.1
            have hlen : Hid (i < (vs ++ List.replicate (11 - i) (0 : Int)).length) := by show _ < _; rw [List.length_append, List.length_replicate, hv.out.1]; omega
            have hXk : X ≤ 65536 := by omega
            have ixx := ix11 x i hlt
            clear hi0 hs hv hG hG2 hGv hrow hE0 hP hnx hcap hlt
            go_wp2_with ((go_at_call 33; (with_reducible refine cU.mono ?_); rintro e w1 ⟨rfl, d, hw1⟩; (have hs1 : Hid (Ro1 w w1 b off n c w.heap.size m r x (fillW (S : Int) []) (vs ++ List.replicate (11 - i) 0) E.toNat B) := by rw [hw1]; exact hsR.out d); (have hz1 : Hid (w1.heap[w.heap.size]? = some objZ) := hs1.out.s.hz); (have hbl1 : Hid (Below w.heap.size w w1) := hs1.out.s.hb); clear hw1; (have fzx : w1.frozen? ⟨x, i, none⟩ = false := hs1.out.s.fz i); (obtain ⟨y0, hy0⟩ : ∃ y, w1.cell? ⟨x, i, none⟩ = some (.int .i64 y) := ⟨_, hs1.out.s.cell (List.getElem?_eq_getElem hlen.out)⟩)))
            go_roundw
            case rel => exact ⟨i + 1, E.toNat, vs ++ [X], by omega, by go_num, hEn, hnew.out, by (show Ro1 _ _ _ _ _ _ _ _ _ _ _ _ _ _); rw [← set_next vs i hvl.out (by omega) X]; exact hs1.out.put hq hxB.out i X⟩
            case measure => simp [intOf]; omega
        · have hXn : mo < X := by omega
          have cU : Calls Try.prog 33 #[.pointer (some ⟨r, 0, none⟩)] wr _ := octet.refuint_ok r (some ⟨b, off, none⟩) (n - 4) c (8 + k) f wr hs.out.s.hr hrow X _ hG2 hn8
          have hE : Hid (rdE f n = (1, (P : Int))) := by
            obtain ⟨e1, e2⟩ := rdL_next_bad hb1 hv.out.2.1 hGv (by unfold capI; omega)
            show _ = _
            rw [rdE_head hu (by unfold rdA; rw [e1]; exact by decide)]
            unfold rdA
            rw [e1, e2, hv.out.2.2.2, hP]
            congr 1
          clear hXm hs hv hG hG2 hGv hrow hE0 hP hsP
          go_wp2_with (first
            | (go_at_call 33; (with_reducible refine cU.mono ?_); rintro e w1 ⟨rfl, d, hw1⟩; (have hs1 : Hid (Ro1 w w1 b off n c w.heap.size m r x (fillW (S : Int) []) (vs ++ List.replicate (11 - i) 0) E.toNat B) := by rw [hw1]; exact hsR.out d); (have hz1 : Hid (w1.heap[w.heap.size]? = some objZ) := hs1.out.s.hz); (have hbl1 : Hid (Below w.heap.size w w1) := hs1.out.s.hb); clear hw1)
            | (refine wpList_store_row rfl 31 _ _ rfl w.heap.size _ rfl rfl _ _ hz1.out infoW12 rfl (oneW zeroWi none 0) ?_))
          refine bodyPost_ret (results_w Try.results12 _ _ w.heap.size (zeroWi.cells none 0).toArray (.int .i64 1) (.int .i64 (P : Int)) rfl rfl rfl rfl (setRow_heap _ _ _ _ _ _ hz1.out)) rfl ⟨below_setRow hbl1.out (Nat.le_refl _) _, fun _ => ?_, fun q => ?_⟩
          · rw [hE.out]
          · rw [hE.out] at q
            exact absurd (show (1 : Int) = 0 from q) (by decide)
      · have hRn : Hid (R ≠ 0) := hR
        have hRb : (R != 0) = true := by simpa using hR
        have cU : Calls Try.prog 33 #[.pointer (some ⟨r, 0, none⟩)] wr _ := octet.refuint_err r (some ⟨b, off, none⟩) (n - 4) c (8 + k) f wr hs.out.s.hr hrow X _ R hG' hR hn8
        have hE : Hid (rdE f n = (R, (P : Int))) := by
          obtain ⟨e1, e2⟩ := rdL_next_err hb1 hv.out.2.1 hGv hR
          show _ = _
          rw [rdE_head hu (by unfold rdA; rw [e1]; exact hR)]
          unfold rdA
          rw [e1, e2, hv.out.2.2.2, hP]
          congr 1
        have hzr : Hid (wr.heap[w.heap.size]? = some objZ) := hs.out.s.hz
        have hbr : Hid (∀ d, Below w.heap.size w (wr.drewN d)) := fun d => below_drewN hs.out.s.hb d
        clear hs hv hG hG' hGv hrow hX0 hE0 hR0 hP hR
        go_wp2_with (first
          | (go_at_call 33; (with_reducible refine cU.mono ?_); rintro e w1 ⟨rfl, d, hw1⟩; (have hz1 : Hid (w1.heap[w.heap.size]? = some objZ) := by rw [hw1]; exact hzr.out); (have hbl1 : Hid (Below w.heap.size w w1) := by rw [hw1]; exact hbr.out d); clear hw1)
          | (refine wpList_store_row rfl 31 _ _ rfl w.heap.size _ rfl rfl _ _ hz1.out infoW12 rfl (oneW zeroWi none 0) ?_))
        refine bodyPost_ret (results_w Try.results12 _ _ w.heap.size (zeroWi.cells none 0).toArray (.int .i64 R) (.int .i64 (P : Int)) rfl rfl rfl rfl (setRow_heap _ _ _ _ _ _ hz1.out)) rfl ⟨below_setRow hbl1.out (Nat.le_refl _) _, fun _ => ?_, fun q => ?_⟩
        · rw [hE.out]
        · rw [hE.out] at q
          exact absurd (show (R : Int) = 0 from q) hRn.out
    · have hi11 : i = 11 := by omega
      subst hi11
      obtain ⟨hvl, hv1, hv2, hv3⟩ := hv.out
      obtain ⟨x0, x1, x2, x3, x4, x5, x6, x7, x8, x9, x10, rfl⟩ : ∃ x0 x1 x2 x3 x4 x5 x6 x7 x8 x9 x10, vs = [x0, x1, x2, x3, x4, x5, x6, x7, x8, x9, x10] := by
        match vs, hvl with
        | [x0, x1, x2, x3, x4, x5, x6, x7, x8, x9, x10], _ => exact ⟨x0, x1, x2, x3, x4, x5, x6, x7, x8, x9, x10, rfl⟩
      have hC0 : 0 ≤ x10 ∧ x10 ≤ 256 := (rdL_once hpf (n := n - 12) allB 0 0 (Nat.zero_le _) (by decide) hv1).2.1 10 (0, 256) x10 rfl (by rw [show (rdL (partF f) (n - 12) allB 0 0).vs = _ from hv2]; rfl)
      obtain ⟨C, hC⟩ : ∃ C : Nat, x10 = (C : Int) := ⟨x10.toNat, by omega⟩
      subst hC
      have hC256 : (C : Int) ≤ 256 := hC0.2
      have hA : Hid ((rdA f n).e = 0 ∧ (rdA f n).vs = [x0, x1, x2, x3, x4, x5, x6, x7, x8, x9, (C : Int)] ∧ (rdA f n).k = k) := ⟨hv1, hv2, hv3⟩
      obtain ⟨a0, ha0⟩ : ∃ a0, a0 = (rdA f n).at_ := ⟨_, rfl⟩
      have hQ : Hid (rdQ f n = rdL (partF f) (n - 12) (repB C) a0 k) := by
        show _ = _
        unfold rdQ
        rw [hA.out.2.1, hA.out.2.2, ha0]
        rfl
      have hs1 : Hid (RoS w wr b off n c w.heap.size m r x (fillW (S : Int) []) none 0 [x0, x1, x2, x3, x4, x5, x6, x7, x8, x9, (C : Int)] k) := hs.out.s
      obtain ⟨W1, hW1⟩ : ∃ W1, wr.setCells m 1 [.int .i64 x0, .int .i64 x1, .int .i64 x2, .int .i64 x3, .int .i64 x4, .int .i64 x5, .int .i64 x6] = W1 := ⟨_, rfl⟩
      have hs2 : Hid (RoS w W1 b off n c w.heap.size m r x (fillW (S : Int) [x0, x1, x2, x3, x4, x5, x6]) none 0 [x0, x1, x2, x3, x4, x5, x6, x7, x8, x9, (C : Int)] k) := by rw [← hW1]; exact hs1.out.fill hq 1 _ _ _ rfl
      obtain ⟨W2, hW2⟩ : ∃ W2, W1.setCells m 9 [.int .i64 x7, .int .i64 x8, .int .i64 x9] = W2 := ⟨_, rfl⟩
      have hs3 : Hid (RoS w W2 b off n c w.heap.size m r x (fillW (S : Int) [x0, x1, x2, x3, x4, x5, x6, x7, x8, x9, (C : Int)]) none 0 [x0, x1, x2, x3, x4, x5, x6, x7, x8, x9, (C : Int)] k) := by rw [← hW2]; exact hs2.out.fill hq 9 _ _ _ rfl
      have hW1H : Hid (wr.setCells m 1 [.int .i64 x0, .int .i64 x1, .int .i64 x2, .int .i64 x3, .int .i64 x4, .int .i64 x5, .int .i64 x6] = W1) := hW1
      have hW2H : Hid (W1.setCells m 9 [.int .i64 x7, .int .i64 x8, .int .i64 x9] = W2) := hW2
      have ht1 : Hid (wr.there m 1 7) := there_in hs1.out.hm (by show 1 + 7 ≤ 12; decide)
      have ht2 : Hid (W1.there m 9 3) := there_in hs2.out.hm (by show 9 + 3 ≤ 12; decide)
      have cx0 : wr.cell? ⟨x, 0, none⟩ = some (.int .i64 x0) := hs1.out.cell rfl
      have cx1 : wr.cell? ⟨x, 1, none⟩ = some (.int .i64 x1) := hs1.out.cell rfl
      have cx2 : wr.cell? ⟨x, 2, none⟩ = some (.int .i64 x2) := hs1.out.cell rfl
      have cx3 : wr.cell? ⟨x, 3, none⟩ = some (.int .i64 x3) := hs1.out.cell rfl
      have cx4 : wr.cell? ⟨x, 4, none⟩ = some (.int .i64 x4) := hs1.out.cell rfl
      have cx5 : wr.cell? ⟨x, 5, none⟩ = some (.int .i64 x5) := hs1.out.cell rfl
      have cx6 : wr.cell? ⟨x, 6, none⟩ = some (.int .i64 x6) := hs1.out.cell rfl
      have cx7 : W1.cell? ⟨x, 7, none⟩ = some (.int .i64 x7) := hs2.out.cell rfl
      have cx8 : W1.cell? ⟨x, 8, none⟩ = some (.int .i64 x8) := hs2.out.cell rfl
      have cx9 : W1.cell? ⟨x, 9, none⟩ = some (.int .i64 x9) := hs2.out.cell rfl
      have ix0 : ∀ wx, (Instr.indexAt 82 (.pointer (some ⟨x, 0, none⟩)) (.int .i64 0)).run Try.prog wx = .ok (.pointer (some ⟨x, 0, none⟩)) wx := ix11 x 0 (by decide)
      have ix1 : ∀ wx, (Instr.indexAt 82 (.pointer (some ⟨x, 0, none⟩)) (.int .i64 1)).run Try.prog wx = .ok (.pointer (some ⟨x, 1, none⟩)) wx := ix11 x 1 (by decide)
      have ix2 : ∀ wx, (Instr.indexAt 82 (.pointer (some ⟨x, 0, none⟩)) (.int .i64 2)).run Try.prog wx = .ok (.pointer (some ⟨x, 2, none⟩)) wx := ix11 x 2 (by decide)
      have ix3 : ∀ wx, (Instr.indexAt 82 (.pointer (some ⟨x, 0, none⟩)) (.int .i64 3)).run Try.prog wx = .ok (.pointer (some ⟨x, 3, none⟩)) wx := ix11 x 3 (by decide)
      have ix4 : ∀ wx, (Instr.indexAt 82 (.pointer (some ⟨x, 0, none⟩)) (.int .i64 4)).run Try.prog wx = .ok (.pointer (some ⟨x, 4, none⟩)) wx := ix11 x 4 (by decide)
      have ix5 : ∀ wx, (Instr.indexAt 82 (.pointer (some ⟨x, 0, none⟩)) (.int .i64 5)).run Try.prog wx = .ok (.pointer (some ⟨x, 5, none⟩)) wx := ix11 x 5 (by decide)
      have ix6 : ∀ wx, (Instr.indexAt 82 (.pointer (some ⟨x, 0, none⟩)) (.int .i64 6)).run Try.prog wx = .ok (.pointer (some ⟨x, 6, none⟩)) wx := ix11 x 6 (by decide)
      have ix7 : ∀ wx, (Instr.indexAt 82 (.pointer (some ⟨x, 0, none⟩)) (.int .i64 7)).run Try.prog wx = .ok (.pointer (some ⟨x, 7, none⟩)) wx := ix11 x 7 (by decide)
      have ix8 : ∀ wx, (Instr.indexAt 82 (.pointer (some ⟨x, 0, none⟩)) (.int .i64 8)).run Try.prog wx = .ok (.pointer (some ⟨x, 8, none⟩)) wx := ix11 x 8 (by decide)
      have ix9 : ∀ wx, (Instr.indexAt 82 (.pointer (some ⟨x, 0, none⟩)) (.int .i64 9)).run Try.prog wx = .ok (.pointer (some ⟨x, 9, none⟩)) wx := ix11 x 9 (by decide)
      have ix10 : ∀ wx, (Instr.indexAt 82 (.pointer (some ⟨x, 0, none⟩)) (.int .i64 10)).run Try.prog wx = .ok (.pointer (some ⟨x, 10, none⟩)) wx := ix11 x 10 (by decide)
      clear hs hs1 hs2 hv hvl hv1 hv2 hv3 hlt hC0 hW1 hW2 ha0
      have hkn : Hid (k ≤ n - 12) := hk
      go_wp2_with (first
        | (refine wpList_store_mid rfl 26 _ _ rfl m 1 #[.int .i64 x0, .int .i64 x1, .int .i64 x2, .int .i64 x3, .int .i64 x4, .int .i64 x5, .int .i64 x6] rfl rfl ht1.out (by kernel_rfl) (by simp [Value.oneCell']) ?_; rw [show wr.setCells m 1 _ = W1 from hW1H.out])
        | (refine wpList_store_mid rfl 29 _ _ rfl m 9 #[.int .i64 x7, .int .i64 x8, .int .i64 x9] rfl rfl ht2.out (by kernel_rfl) (by simp [Value.oneCell']) ?_; rw [show W1.setCells m 9 _ = W2 from hW2H.out]))
      clear cx0 cx1 cx2 cx3 cx4 cx5 cx6 cx7 cx8 cx9 ix0 ix1 ix2 ix3 ix4 ix5 ix6 ix7 ix8 ix9 ht1 ht2 hW1H hW2H hxB hk
      go_loopw [16] (fun u wr => ∃ (j kk : Nat) (vs : List Int) (pa : Option Addr) (pc : Nat), j ≤ 2 * C ∧ u = .int .i64 (j : Int) ∧ kk ≤ n - 12 ∧ Hid (vs.length = j ∧ (rdL (partF f) (n - 12) ((repB C).take j) a0 k).e = 0 ∧ (rdL (partF f) (n - 12) ((repB C).take j) a0 k).vs = vs ∧ (rdL (partF f) (n - 12) ((repB C).take j) a0 k).k = kk) ∧ Hid (RoS w wr b off n c w.heap.size m r x { fillW (S : Int) [x0, x1, x2, x3, x4, x5, x6, x7, x8, x9, (C : Int)] with pk := pk2 vs } pa pc [x0, x1, x2, x3, x4, x5, x6, x7, x8, x9, (C : Int)] kk ∧ OwnL wr (x + 1) 66 2 pa pc ((pk2 vs).map pkC))) (fun u _ => 2 * C - (intOf u).toNat)
      case atStart => exact ⟨0, k, [], none, 0, Nat.zero_le _, rfl, hkn.out, ⟨rfl, rfl, rfl, rfl⟩, hs3.out, own_nil_q _ _ _ _⟩
      case round =>
        clear hs3 hi
        obtain ⟨j, kk, vs, pa, pc, hj, rfl, hk, hv, hs⟩ := hrel
        have cx10 : wr.cell? ⟨x, 10, none⟩ = some (.int .i64 (C : Int)) := hs.out.1.cell rfl
        by_cases hlt : j < 2 * C
        · have hjI : (j : Int) < 2 * (C : Int) := by omega
          obtain ⟨P, hP⟩ : ∃ P : Nat, P = 8 + kk := ⟨_, rfl⟩
          have cR : wr.cell? ⟨r, 1, none⟩ = some (.int .i64 (P : Int)) := by rw [hP]; exact hs.out.1.hr.c1
          obtain ⟨X, E, R, hG⟩ : ∃ X E R, octet.gotten (partF f) (n - 12) (kk : Int) = (X, E, R) := ⟨_, _, _, rfl⟩
          obtain ⟨hX0, hE0, hR0⟩ := gotten_nat hG
          have hG' := gotten_part (by omega) hk hG
          have hn8 : 8 + kk ≤ n - 4 := by omega
          have hrow := hs.out.1.row hrH.out
          have hGv : octet.gotten (partF f) (n - 12) ((rdL (partF f) (n - 12) ((repB C).take j) a0 k).k : Int) = (X, E, R) := by rw [hv.out.2.2.2]; exact hG
          obtain ⟨q, hqj⟩ : ∃ q, j = 2 * q ∨ j = 2 * q + 1 := ⟨j / 2, by omega⟩
          by_cases hR : R = 0
          · subst hR
            have hG2 : octet.gotten f (n - 4) ((8 + kk : Nat) : Int) = (X, 8 + E, 0) := by rw [if_pos rfl] at hG'; exact hG'
            have hsR : Hid (∀ d, (RoS w ((wr.drewN d).setCell ⟨r, 1, none⟩ (.int .i64 (8 + E))) b off n c w.heap.size m r x { fillW (S : Int) [x0, x1, x2, x3, x4, x5, x6, x7, x8, x9, (C : Int)] with pk := pk2 vs } pa pc [x0, x1, x2, x3, x4, x5, x6, x7, x8, x9, (C : Int)] E.toNat) ∧ OwnL ((wr.drewN d).setCell ⟨r, 1, none⟩ (.int .i64 (8 + E))) (x + 1) 66 2 pa pc ((pk2 vs).map pkC)) := fun d => by
              have h1 := hs.out.1.read hq d E.toNat
              rw [show ((8 + E.toNat : Nat) : Int) = 8 + E by omega] at h1
              exact ⟨h1, own_keep hs.out.2 fun g hg => by
                have := (blk_lt hs.out.2 g hg).1
                have := hq.hx
                exact heap_setCell_other _ _ _ _ (by show g ≠ r; omega)⟩
            clear hG'
            have cU : Calls Try.prog 33 #[.pointer (some ⟨r, 0, none⟩)] wr _ := octet.refuint_ok r (some ⟨b, off, none⟩) (n - 4) c (8 + kk) f wr hs.out.1.hr hrow X _ hG2 hn8
            rcases hqj with hqj | hqj
            · have hmod : Int.tmod (j : Int) 2 = 0 := by rw [Int.tmod_eq_emod_of_nonneg (by omega)]; omega
              have hb1 := (repB_at C q (by omega)).1
              rw [← hqj] at hb1
              by_cases hXm : X ≤ 5
              · have hcap : capI X = X := cap_same (hi := 5) (by decide) hXm
                have hnx := rdL_next_ok hb1 hv.out.2.1 hGv (by rw [hcap]; exact ⟨hX0, hXm⟩)
                rw [hcap] at hnx
                have hEn : E.toNat ≤ n - 12 := gotten_le hpf hG
                have hnew : Hid ((vs ++ [X]).length = j + 1 ∧ (rdL (partF f) (n - 12) ((repB C).take (j + 1)) a0 k).e = 0 ∧ (rdL (partF f) (n - 12) ((repB C).take (j + 1)) a0 k).vs = vs ++ [X] ∧ (rdL (partF f) (n - 12) ((repB C).take (j + 1)) a0 k).k = E.toNat) := ⟨by rw [List.length_append, hv.out.1]; rfl, by rw [hnx], by rw [hnx, hv.out.2.2.1], by rw [hnx]⟩
                have hXk : X ≤ 65536 := by omega
                obtain ⟨pe1, pe2⟩ := pk2_even q vs X (by rw [hv.out.1]; exact hqj)
                have hpl : Hid ((pk2 vs).length < 256) := by show _ < _; omega
                have hln : Hid (((pk2 vs).map pkC ++ [pkC (X, 0)]).length = (pk2 (vs ++ [X])).length) := by show _ = _; rw [pe1]; simp
                have hmp : Hid ((pk2 (vs ++ [X])).map pkC = (pk2 vs).map pkC ++ [pkC (X, 0)]) := by show _ = _; rw [pe1, List.map_append]; rfl
                obtain ⟨iP, hiP, hzP, hsP, hbP⟩ := info_of infoPk
                clear hs hv hG hG2 hGv hrow hE0 hP hnx hcap hqj hA hQ hb1 pe1 pe2
                go_wp2_with (first
                  | (go_at_call 33; (with_reducible refine cU.mono ?_); rintro e w1 ⟨rfl, d, hw1⟩; (have hs1 : Hid (RoS w w1 b off n c w.heap.size m r x { fillW (S : Int) [x0, x1, x2, x3, x4, x5, x6, x7, x8, x9, (C : Int)] with pk := pk2 vs } pa pc [x0, x1, x2, x3, x4, x5, x6, x7, x8, x9, (C : Int)] E.toNat ∧ OwnL w1 (x + 1) 66 2 pa pc ((pk2 vs).map pkC)) := by rw [hw1]; exact hsR.out d); (have hz1 : Hid (w1.heap[w.heap.size]? = some objZ) := hs1.out.1.hz); (have hbl1 : Hid (Below w.heap.size w w1) := hs1.out.1.hb); clear hw1; (have k8 : w1.cell? ⟨m, 8, none⟩ = some (.slice pa (pk2 vs).length pc) := hs1.out.1.m8); (have hAo : Hid (OwnL (w1.alloc (.cells #[.int .i64 X, .int .i64 0] 66)) (x + 1) 66 2 pa pc ((pk2 vs).map pkC)) := own_on hs1.out.2 (boxed _ _)); (have hAr : Hid (Rows (w1.alloc (.cells #[.int .i64 X, .int .i64 0] 66)) 2 (some ⟨w1.heap.size, 0, none⟩) 1 [pkC (X, 0)]) := rows_pk (heap_alloc_new _ _)); (have hAs : Hid (x + 1 ≤ (w1.alloc (.cells #[.int .i64 X, .int .i64 0] 66)).heap.size) := by have := hs1.out.1.xlt; show _ ≤ _; rw [World.size_alloc]; omega); (have hAx : Hid (x < min (x + 1) (w1.alloc (.cells #[.int .i64 X, .int .i64 0] 66)).heap.size) := by have := hs1.out.1.xlt; show _ < _; rw [World.size_alloc]; omega))
                  | (at_builtin; refine wpList_app rfl (.tmp 201) (.tmp 205) 27 rfl (x + 1) 66 iP _ 2 16 Try.underlying27 hiP hzP hsP hbP rfl (by decide) pa pc ((pk2 vs).map pkC) (by rw [List.length_map]; rfl) hAo.out (some ⟨w1.heap.size, 0, none⟩) 1 [pkC (X, 0)] rfl hAr.out (pk_len [(X, 0)]) (pk_one [(X, 0)]) (by rw [List.length_map]; unfold maxLen; simp only [List.length_singleton]; have := hpl.out; omega) (by rw [List.length_map]; simp only [List.length_singleton]; have := hpl.out; omega) hAs.out ?_; intro va vc w8 ho8 hk8 hB8 hbl8; (have hs8 : Hid (RoS w w8 b off n c w.heap.size m r x { fillW (S : Int) [x0, x1, x2, x3, x4, x5, x6, x7, x8, x9, (C : Int)] with pk := pk2 vs } pa pc [x0, x1, x2, x3, x4, x5, x6, x7, x8, x9, (C : Int)] E.toNat) := (hs1.out.1.later (boxed _ _)).under hq _ hAx.out hB8); (have j8 : w8.cell? ⟨m, 8, none⟩ = some (.slice pa (pk2 vs).length pc) := hs8.out.m8); (have fz8 : w8.frozen? ⟨m, 8, none⟩ = false := hs8.out.fzm 8); (replace ho8 : Hid _ := ho8); clear hk8 hB8 hbl8; rw [hln.out]))
                go_roundw
                case rel => exact ⟨j + 1, E.toNat, vs ++ [X], va, vc, by omega, by go_num, hEn, hnew.out, hs8.out.setpk hq va vc (pk2 (vs ++ [X])), by rw [hmp.out]; exact own_far ho8.out (by have := hq.hx; have := hq.hr; omega)⟩
                case measure => simp [intOf]; omega
              · have hXn : 5 < X := by omega
                have hE : Hid (rdE f n = (1, (P : Int))) := by
                  obtain ⟨e1, e2⟩ := rdL_next_bad hb1 hv.out.2.1 hGv (by unfold capI; omega)
                  show _ = _
                  obtain ⟨_, _, hr3⟩ := rdE_rest hu hA.out.1
                  rw [hr3, hQ.out, if_pos (by rw [e1]; exact by decide), e1, e2, hv.out.2.2.2, hP]
                  congr 1
                clear hXm hs hv hG hG2 hGv hrow hE0 hP hqj hA hQ
                go_wp2_with (first
                  | (go_at_call 33; (with_reducible refine cU.mono ?_); rintro e w1 ⟨rfl, d, hw1⟩; (have hs1 : Hid (RoS w w1 b off n c w.heap.size m r x { fillW (S : Int) [x0, x1, x2, x3, x4, x5, x6, x7, x8, x9, (C : Int)] with pk := pk2 vs } pa pc [x0, x1, x2, x3, x4, x5, x6, x7, x8, x9, (C : Int)] E.toNat ∧ OwnL w1 (x + 1) 66 2 pa pc ((pk2 vs).map pkC)) := by rw [hw1]; exact hsR.out d); (have hz1 : Hid (w1.heap[w.heap.size]? = some objZ) := hs1.out.1.hz); (have hbl1 : Hid (Below w.heap.size w w1) := hs1.out.1.hb); clear hw1)
                  | (refine wpList_store_row rfl 31 _ _ rfl w.heap.size _ rfl rfl _ _ hz1.out infoW12 rfl (oneW zeroWi none 0) ?_))
                refine bodyPost_ret (results_w Try.results12 _ _ w.heap.size (zeroWi.cells none 0).toArray (.int .i64 1) (.int .i64 (P : Int)) rfl rfl rfl rfl (setRow_heap _ _ _ _ _ _ hz1.out)) rfl ⟨below_setRow hbl1.out (Nat.le_refl _) _, fun _ => ?_, fun q => ?_⟩
                · rw [hE.out]
                · rw [hE.out] at q
                  exact absurd (show (1 : Int) = 0 from q) (by decide)
            · have hmod : Int.tmod (j : Int) 2 = 1 := by rw [Int.tmod_eq_emod_of_nonneg (by omega)]; omega
              have hquo : Int.tdiv (j : Int) 2 = (q : Int) := by rw [Int.tdiv_eq_ediv_of_nonneg (by omega)]; omega
              have hb1 := (repB_at C q (by omega)).2
              rw [← hqj] at hb1
              by_cases hXm : X ≤ 4
              · have hcap : capI X = X := cap_same (hi := 4) (by decide) hXm
                have hnx := rdL_next_ok hb1 hv.out.2.1 hGv (by rw [hcap]; exact ⟨hX0, hXm⟩)
                rw [hcap] at hnx
                have hEn : E.toNat ≤ n - 12 := gotten_le hpf hG
                have hnew : Hid ((vs ++ [X]).length = j + 1 ∧ (rdL (partF f) (n - 12) ((repB C).take (j + 1)) a0 k).e = 0 ∧ (rdL (partF f) (n - 12) ((repB C).take (j + 1)) a0 k).vs = vs ++ [X] ∧ (rdL (partF f) (n - 12) ((repB C).take (j + 1)) a0 k).k = E.toNat) := ⟨by rw [List.length_append, hv.out.1]; rfl, by rw [hnx], by rw [hnx, hv.out.2.2.1], by rw [hnx]⟩
                have hXk : X ≤ 65536 := by omega
                obtain ⟨u, po1, po2, po3⟩ := pk2_odd q vs X (by rw [hv.out.1]; exact hqj)
                obtain ⟨g, rfl, hg1, hg2⟩ : ∃ g, pa = some ⟨g, 0, none⟩ ∧ x + 1 ≤ g ∧ g < wr.heap.size := by
                  rcases own_block hs.out.2 with ⟨_, h0, _⟩ | h0
                  · rw [List.length_map, po3] at h0; omega
                  · exact h0
                have hmp : Hid ((pk2 (vs ++ [X])).map pkC = ((pk2 vs).map pkC).set q ((pkC (u, 0)).set 1 (.int .i64 X))) := by show _ = _; rw [po2, List.map_set]; rfl
                have hle : Hid ((pk2 (vs ++ [X])).length = (pk2 vs).length) := by show _ = _; rw [po2, List.length_set]
                have hru : Hid (((pk2 vs).map pkC)[q]? = some (pkC (u, 0))) := by show _ = _; rw [List.getElem?_map, po1]; rfl
                have hgx : Hid (x + 1 ≤ g) := hg1
                have hwq : wrap64 (q : Int) = (q : Int) := by unfold wrap64; omega
                have ixp : ∀ wx, (Instr.indexAt 27 (.slice (some ⟨g, 0, none⟩) (pk2 vs).length pc) (.int .i64 (q : Int))).run Try.prog wx = .ok (.pointer (some ⟨g, q * 2, none⟩)) wx := pick_at g (pk2 vs).length pc q (by omega)
                clear hs hv hG hG2 hGv hrow hE0 hP hnx hcap hqj hA hQ hb1 po1 po2 po3 hg1 hg2
                go_wp2_with ((go_at_call 33; (with_reducible refine cU.mono ?_); rintro e w1 ⟨rfl, d, hw1⟩; (have hs1 : Hid (RoS w w1 b off n c w.heap.size m r x { fillW (S : Int) [x0, x1, x2, x3, x4, x5, x6, x7, x8, x9, (C : Int)] with pk := pk2 vs } (some ⟨g, 0, none⟩) pc [x0, x1, x2, x3, x4, x5, x6, x7, x8, x9, (C : Int)] E.toNat ∧ OwnL w1 (x + 1) 66 2 (some ⟨g, 0, none⟩) pc ((pk2 vs).map pkC)) := by rw [hw1]; exact hsR.out d); (have hz1 : Hid (w1.heap[w.heap.size]? = some objZ) := hs1.out.1.hz); (have hbl1 : Hid (Below w.heap.size w w1) := hs1.out.1.hb); clear hw1; (have k8 : w1.cell? ⟨m, 8, none⟩ = some (.slice (some ⟨g, 0, none⟩) (pk2 vs).length pc) := hs1.out.1.m8); (obtain ⟨cg, fg⟩ := own_cell hs1.out.2 (pk_len _) q _ hru.out 1 (.int .i64 0) rfl)))
                skip
                go_roundw
                case rel => exact ⟨j + 1, E.toNat, vs ++ [X], some ⟨g, 0, none⟩, pc, by omega, by go_num, hEn, hnew.out, (hs1.out.1.under hq (x + 1) (by omega) ((Below.refl _ _).setCell (p := ⟨g, q * 2 + 1, none⟩) hgx.out _)).relen (pk2 (vs ++ [X])) hle.out, by rw [hmp.out]; exact own_cellset hs1.out.2 (pk_len _) q _ hru.out 1 (by decide) _⟩
                case measure => simp [intOf]; omega
              · have hXn : 4 < X := by omega
                have hE : Hid (rdE f n = (1, (P : Int))) := by
                  obtain ⟨e1, e2⟩ := rdL_next_bad hb1 hv.out.2.1 hGv (by unfold capI; omega)
                  show _ = _
                  obtain ⟨_, _, hr3⟩ := rdE_rest hu hA.out.1
                  rw [hr3, hQ.out, if_pos (by rw [e1]; exact by decide), e1, e2, hv.out.2.2.2, hP]
                  congr 1
                clear hXm hs hv hG hG2 hGv hrow hE0 hP hqj hA hQ
                go_wp2_with (first
                  | (go_at_call 33; (with_reducible refine cU.mono ?_); rintro e w1 ⟨rfl, d, hw1⟩; (have hs1 : Hid (RoS w w1 b off n c w.heap.size m r x { fillW (S : Int) [x0, x1, x2, x3, x4, x5, x6, x7, x8, x9, (C : Int)] with pk := pk2 vs } pa pc [x0, x1, x2, x3, x4, x5, x6, x7, x8, x9, (C : Int)] E.toNat ∧ OwnL w1 (x + 1) 66 2 pa pc ((pk2 vs).map pkC)) := by rw [hw1]; exact hsR.out d); (have hz1 : Hid (w1.heap[w.heap.size]? = some objZ) := hs1.out.1.hz); (have hbl1 : Hid (Below w.heap.size w w1) := hs1.out.1.hb); clear hw1)
                  | (refine wpList_store_row rfl 31 _ _ rfl w.heap.size _ rfl rfl _ _ hz1.out infoW12 rfl (oneW zeroWi none 0) ?_))
                refine bodyPost_ret (results_w Try.results12 _ _ w.heap.size (zeroWi.cells none 0).toArray (.int .i64 1) (.int .i64 (P : Int)) rfl rfl rfl rfl (setRow_heap _ _ _ _ _ _ hz1.out)) rfl ⟨below_setRow hbl1.out (Nat.le_refl _) _, fun _ => ?_, fun q => ?_⟩
                · rw [hE.out]
                · rw [hE.out] at q
                  exact absurd (show (1 : Int) = 0 from q) (by decide)
          · obtain ⟨bb, hb1⟩ : ∃ bb, (repB C)[j]? = some bb := ⟨_, List.getElem?_eq_getElem (by rw [repB_len]; exact hlt)⟩
            have hRn : Hid (R ≠ 0) := hR
            have hRb : (R != 0) = true := by simpa using hR
            have cU : Calls Try.prog 33 #[.pointer (some ⟨r, 0, none⟩)] wr _ := octet.refuint_err r (some ⟨b, off, none⟩) (n - 4) c (8 + kk) f wr hs.out.1.hr hrow X _ R hG' hR hn8
            have hE : Hid (rdE f n = (R, (P : Int))) := by
              obtain ⟨e1, e2⟩ := rdL_next_err hb1 hv.out.2.1 hGv hR
              show _ = _
              obtain ⟨_, _, hr3⟩ := rdE_rest hu hA.out.1
              rw [hr3, hQ.out, if_pos (by rw [e1]; exact hR), e1, e2, hv.out.2.2.2, hP]
              congr 1
            have hzr : Hid (wr.heap[w.heap.size]? = some objZ) := hs.out.1.hz
            have hbr : Hid (∀ d, Below w.heap.size w (wr.drewN d)) := fun d => below_drewN hs.out.1.hb d
            clear hqj hA hQ hs hv hG hG' hGv hrow hX0 hE0 hR0 hP hR
            go_wp2_with (first
              | (go_at_call 33; (with_reducible refine cU.mono ?_); rintro e w1 ⟨rfl, d, hw1⟩; (have hz1 : Hid (w1.heap[w.heap.size]? = some objZ) := by rw [hw1]; exact hzr.out); (have hbl1 : Hid (Below w.heap.size w w1) := by rw [hw1]; exact hbr.out d); clear hw1)
              | (refine wpList_store_row rfl 31 _ _ rfl w.heap.size _ rfl rfl _ _ hz1.out infoW12 rfl (oneW zeroWi none 0) ?_))
            refine bodyPost_ret (results_w Try.results12 _ _ w.heap.size (zeroWi.cells none 0).toArray (.int .i64 R) (.int .i64 (P : Int)) rfl rfl rfl rfl (setRow_heap _ _ _ _ _ _ hz1.out)) rfl ⟨below_setRow hbl1.out (Nat.le_refl _) _, fun _ => ?_, fun q => ?_⟩
            · rw [hE.out]
            · rw [hE.out] at q
              exact absurd (show (R : Int) = 0 from q) hRn.out
        · have hjn : 2 * (C : Int) ≤ (j : Int) := by omega
          have hjC : j = 2 * C := by omega
          have htk : (repB C).take j = repB C := List.take_of_length_le (by rw [repB_len]; omega)
          obtain ⟨P, hP⟩ : ∃ P : Nat, P = 8 + kk := ⟨_, rfl⟩
          obtain ⟨v1, v2, v3, v4⟩ := hv.out
          rw [htk, ← hQ.out] at v2 v3 v4
          obtain ⟨r1, r2, r3⟩ := rdE_rest hu hA.out.1
          rw [if_neg (by rw [v2]; simp), v4] at r3
          have cE : Calls Try.prog 34 #[.pointer (some ⟨r, 0, none⟩)] wr _ := octet.refend_any r (some ⟨b, off, none⟩) (n - 4) c (8 + kk) wr hs.out.1.hr (by omega)
          by_cases hkk : kk < n - 12
          · rw [show octet.endOf (n - 4) (8 + kk) = 13 from if_pos (by omega)] at cE
            rw [if_pos hkk] at r3
            have hE : Hid (rdE f n = (13, (P : Int))) := by
              show _ = _
              rw [r3, hP]
              congr 1
            have hsR : Hid (∀ d, RoS w (wr.drewN d) b off n c w.heap.size m r x { fillW (S : Int) [x0, x1, x2, x3, x4, x5, x6, x7, x8, x9, (C : Int)] with pk := pk2 vs } pa pc [x0, x1, x2, x3, x4, x5, x6, x7, x8, x9, (C : Int)] kk) := fun d => hs.out.1.later (bel_drewN wr d)
            have hcR : Hid (∀ d, (wr.drewN d).cell? ⟨r, 1, none⟩ = some (.int .i64 (P : Int))) := fun d => by rw [hP]; exact (hsR.out d).hr.c1
            clear hs hv v1 v2 v3 v4 r1 r2 r3 hP htk hA hQ hjC hlt hkk
            go_wp2_with (first
              | (go_at_call 34; (with_reducible refine cE.mono ?_); rintro e w1 ⟨rfl, d, hw1⟩; (have hz1 : Hid (w1.heap[w.heap.size]? = some objZ) := by rw [hw1]; exact (hsR.out d).hz); (have hbl1 : Hid (Below w.heap.size w w1) := by rw [hw1]; exact (hsR.out d).hb); (have cR1 : w1.cell? ⟨r, 1, none⟩ = some (.int .i64 (P : Int)) := by rw [hw1]; exact hcR.out d); clear hw1))
            have cR2 : Hid ((w1.drew.setRow w.heap.size (zeroWi.cells none 0).toArray).cell? ⟨r, 1, none⟩ = some (.int .i64 (P : Int))) := by
              have := hq.hm
              have := hq.hr
              exact cell_keepW cR1 (setRow_other _ _ _ _ (by omega))
            refine wp_region_noPanic ?_
            refine wp_region_held_drew (S := fun _ => True) (by kernel_rfl) trivial (fun _ => ?_)
            refine reg_move (i := 0) rfl (by kernel_rfl) (by kernel_rfl) (by kernel_rfl) (fun _ _ _ _ h => h) rfl (.agg (zeroWi.cells none 0).toArray) (fun _ => by kernel_rfl) trivial ?_
            simp only [Act.put, List.getElem_toArray, List.getElem_cons_succ, List.getElem_cons_zero, List.setIfInBounds_toArray, List.set_cons_zero, List.set_cons_succ]
            refine reg_move (i := 1) rfl (by kernel_rfl) (by kernel_rfl) (by kernel_rfl) (fun _ _ _ _ h => h) rfl (.pointer (some ⟨r, 0, none⟩)) (fun _ => rfl) trivial ?_
            simp only [Act.put, List.getElem_toArray, List.getElem_cons_succ, List.getElem_cons_zero, List.setIfInBounds_toArray, List.set_cons_zero, List.set_cons_succ]
            refine reg_move (i := 2) rfl (by kernel_rfl) (by kernel_rfl) (by kernel_rfl) (fun _ _ _ _ h => h) rfl (.pointer (some ⟨r, 0, none⟩)) (fun _ => by kernel_rfl) trivial ?_
            simp only [Act.put, List.getElem_toArray, List.getElem_cons_succ, List.getElem_cons_zero, List.setIfInBounds_toArray, List.set_cons_zero, List.set_cons_succ]
            refine reg_move (i := 3) rfl (by kernel_rfl) (by kernel_rfl) (by kernel_rfl) (fun _ _ _ _ h => h) rfl (.pointer (some ⟨r, 1, none⟩)) (fun _ => by kernel_rfl) trivial ?_
            simp only [Act.put, List.getElem_toArray, List.getElem_cons_succ, List.getElem_cons_zero, List.setIfInBounds_toArray, List.set_cons_zero, List.set_cons_succ]
            refine reg_two (i := 4) (j := 5) (by kernel_rfl) rfl rfl rfl rfl ?_ ?_
            · refine wpList_load1 rfl 3 _ rfl ⟨r, 1, none⟩ rfl _ Try.underlying3 rfl (.int .i64 (P : Int)) cR1 (wpList_nil (And.intro trivial fun _ => ?_))
              simp only [Act.put, List.getElem_toArray, List.getElem_cons_succ, List.getElem_cons_zero, List.setIfInBounds_toArray, List.set_cons_zero, List.set_cons_succ]
              refine reg_one (i := 5) (by kernel_rfl) rfl rfl ?_
              refine wpList_store_row rfl 31 _ _ rfl w.heap.size _ rfl rfl _ _ hz1.out infoW12 rfl (oneW zeroWi none 0) (wpList_nil (And.intro trivial fun _ => ?_))
              simp only [Act.put, List.getElem_toArray, List.getElem_cons_succ, List.getElem_cons_zero, List.setIfInBounds_toArray, List.set_cons_zero, List.set_cons_succ]
              refine reg_move (i := 6) rfl (by kernel_rfl) (by kernel_rfl) (by kernel_rfl) (fun _ _ _ _ h => h) rfl (.int .i64 13) (fun _ => rfl) trivial ?_
              simp only [Act.put, List.getElem_toArray, List.getElem_cons_succ, List.getElem_cons_zero, List.setIfInBounds_toArray, List.set_cons_zero, List.set_cons_succ]
              refine reg_move (i := 7) rfl (by kernel_rfl) (by kernel_rfl) (by kernel_rfl) (fun _ _ _ _ h => h) rfl (.int .i64 (P : Int)) (fun _ => rfl) trivial ?_
              simp only [Act.put, List.getElem_toArray, List.getElem_cons_succ, List.getElem_cons_zero, List.setIfInBounds_toArray, List.set_cons_zero, List.set_cons_succ]
              refine wpAnyH_done (by kernel_rfl) (NoPanic.normal ?_) _
              go_wp2_with fail
              refine bodyPost_ret (results_w Try.results12 _ _ w.heap.size (zeroWi.cells none 0).toArray (.int .i64 13) (.int .i64 (P : Int)) rfl rfl rfl rfl (setRow_heap _ _ _ _ _ _ hz1.out)) rfl ⟨below_setRow hbl1.out.drew (Nat.le_refl _) _, fun _ => ?_, fun q => ?_⟩
              · rw [hE.out]
              · rw [hE.out] at q
                exact absurd (show (13 : Int) = 0 from q) (by decide)
            · refine wpList_store_row rfl 31 _ _ rfl w.heap.size _ rfl rfl _ _ hz1.out infoW12 rfl (oneW zeroWi none 0) (wpList_nil (And.intro trivial fun _ => ?_))
              simp only [Act.put, List.getElem_toArray, List.getElem_cons_succ, List.getElem_cons_zero, List.setIfInBounds_toArray, List.set_cons_zero, List.set_cons_succ]
              refine reg_move (i := 6) rfl (by kernel_rfl) (by kernel_rfl) (by kernel_rfl) (fun _ _ _ _ h => h) rfl (.int .i64 13) (fun _ => rfl) trivial ?_
              simp only [Act.put, List.getElem_toArray, List.getElem_cons_succ, List.getElem_cons_zero, List.setIfInBounds_toArray, List.set_cons_zero, List.set_cons_succ]
              refine reg_one (i := 4) (by kernel_rfl) rfl rfl ?_
              refine wpList_load1 rfl 3 _ rfl ⟨r, 1, none⟩ rfl _ Try.underlying3 rfl (.int .i64 (P : Int)) cR2.out (wpList_nil (And.intro trivial fun _ => ?_))
              simp only [Act.put, List.getElem_toArray, List.getElem_cons_succ, List.getElem_cons_zero, List.setIfInBounds_toArray, List.set_cons_zero, List.set_cons_succ]
              refine reg_move (i := 7) rfl (by kernel_rfl) (by kernel_rfl) (by kernel_rfl) (fun _ _ _ _ h => h) rfl (.int .i64 (P : Int)) (fun _ => rfl) trivial ?_
              simp only [Act.put, List.getElem_toArray, List.getElem_cons_succ, List.getElem_cons_zero, List.setIfInBounds_toArray, List.set_cons_zero, List.set_cons_succ]
              refine wpAnyH_done (by kernel_rfl) (NoPanic.normal ?_) _
              go_wp2_with fail
              refine bodyPost_ret (results_w Try.results12 _ _ w.heap.size (zeroWi.cells none 0).toArray (.int .i64 13) (.int .i64 (P : Int)) rfl rfl rfl rfl (setRow_heap _ _ _ _ _ _ hz1.out)) rfl ⟨below_setRow hbl1.out.drew (Nat.le_refl _) _, fun _ => ?_, fun q => ?_⟩
              · rw [hE.out]
              · rw [hE.out] at q
                exact absurd (show (13 : Int) = 0 from q) (by decide)
          · rw [show octet.endOf (n - 4) (8 + kk) = 0 from if_neg (by omega)] at cE
            rw [if_neg hkk] at r3
            have hE : Hid (rdE f n = (0, 0)) := r3
            have hsR : Hid (∀ d, (RoS w (wr.drewN d) b off n c w.heap.size m r x { fillW (S : Int) [x0, x1, x2, x3, x4, x5, x6, x7, x8, x9, (C : Int)] with pk := pk2 vs } pa pc [x0, x1, x2, x3, x4, x5, x6, x7, x8, x9, (C : Int)] kk) ∧ OwnL (wr.drewN d) (x + 1) 66 2 pa pc ((pk2 vs).map pkC)) := fun d => ⟨hs.out.1.later (bel_drewN wr d), own_on hs.out.2 (bel_drewN wr d)⟩
            have hM : Hid (rdM f n = fillW (S : Int) [x0, x1, x2, x3, x4, x5, x6, x7, x8, x9, (C : Int)]) := by
              show _ = _
              rw [r1, hA.out.2.1, hS.out]
            have hfl : Hid ((pk2 vs).flatMap (fun p => [p.1, p.2]) = (rdP (partF f) (n - 12) (rdL (partF f) (n - 12) headB 0 0).at_ (rdL (partF f) (n - 12) headB 0 0).k).vs) := by
              show _ = _
              rw [r2, v3]
              exact pk2_flat C vs (v1.trans hjC)
            have huW : Hid (Try.prog.underlying 31 = _) := Try.underlying31
            have hiC : Hid ((Try.prog.info? 31).map (·.size) = some (Wi.cells { fillW (S : Int) [x0, x1, x2, x3, x4, x5, x6, x7, x8, x9, (C : Int)] with pk := pk2 vs } pa pc).toArray.size) := infoW12
            clear hs hv v1 v2 v3 v4 r1 r2 r3 hP htk hA hQ hjC hlt hkk
            go_wp2_with (first
              | (go_at_call 34; (with_reducible refine cE.mono ?_); rintro e w1 ⟨rfl, d, hw1⟩; (have hs1 : Hid ((RoS w w1 b off n c w.heap.size m r x { fillW (S : Int) [x0, x1, x2, x3, x4, x5, x6, x7, x8, x9, (C : Int)] with pk := pk2 vs } pa pc [x0, x1, x2, x3, x4, x5, x6, x7, x8, x9, (C : Int)] kk) ∧ OwnL w1 (x + 1) 66 2 pa pc ((pk2 vs).map pkC)) := by rw [hw1]; exact hsR.out d); clear hw1)
              | (refine wpList_load_row rfl 31 _ rfl m rfl _ _ _ _ hs1.out.1.hm huW.out rfl hiC.out ?_)
              | (refine wpList_store_row rfl 31 _ _ rfl w.heap.size _ rfl rfl _ _ hs1.out.1.hz infoW12 rfl (oneW { fillW (S : Int) [x0, x1, x2, x3, x4, x5, x6, x7, x8, x9, (C : Int)] with pk := pk2 vs } pa pc) ?_))
            refine bodyPost_ret (results_w Try.results12 _ _ w.heap.size (Wi.cells { fillW (S : Int) [x0, x1, x2, x3, x4, x5, x6, x7, x8, x9, (C : Int)] with pk := pk2 vs } pa pc).toArray (.int .i64 0) (.int .i64 0) rfl rfl rfl rfl (setRow_heap _ _ _ _ _ _ hs1.out.1.hz)) rfl ⟨below_setRow hs1.out.1.hb (Nat.le_refl _) _, fun q => ?_, fun _ => ⟨pk2 vs, pa, pc, ?_, ?_, hfl.out⟩⟩
            · rw [hE.out] at q
              exact absurd rfl q
            · rw [hM.out]
            · refine own_rows (own_keep hs1.out.2 fun g hg => ?_) (pk_len _)
              have := (blk_lt hs1.out.2 g hg).1
              have := hq.hx
              have := hq.hr
              have := hq.hm
              exact setRow_other _ _ _ _ (by omega)
end
end Go.Proofs.Ytikkgfmhnmoalaa.pg
