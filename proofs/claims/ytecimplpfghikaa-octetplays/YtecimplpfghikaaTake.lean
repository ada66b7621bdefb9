/- A reader in memory: the contracts of Take, of package octet's and of the document's own. -/
import Derived.Test.YtecimplpfghikaaRefReader
import Derived.BigRegion
namespace Go.Proofs.Ytecimplpfghikaa.octet
open Go.ChangeShapes Go.WideShapes Go.ChangeAt Go.RowKit
open wrapped
set_option linter.unusedVariables false
theorem take_none (b : Nat) (a : Option Addr) (n c k : Nat) (q : Int) (w : World) (h : Rd w b 75 (.slice a n c) k) (hk : k ≤ n) (hn : (n : Int) ≤ 9223372036854775807) (l1 : -9223372036854775808 ≤ q) (l2 : q ≤ 9223372036854775807) (R : Int)
    (hR : (q < 0 ∧ R = 1) ∨ (0 ≤ q ∧ (n : Int) - k < q ∧ R = 10) ∨ (q = 0 ∧ R = 0)) :
    Calls Try.prog 28 #[rp b, .int .i64 q] w fun e w' => e = .returned (.tuple #[.slice none 0 0, .int .i64 R]) ∧ w' = w := by
  have cL := left_any b a n c k w h hk hn
  have hkI : (0 : Int) ≤ (n : Int) - (k : Int) := by omega
  clear h hk
  rcases hR with ⟨h1, rfl⟩ | ⟨h1, h2, rfl⟩ | ⟨rfl, rfl⟩
  · go_enter Try.func28, Try.ntmps28
    go_wp2
    go_ret2
    exact ⟨rfl, rfl⟩
  · go_enter Try.func28, Try.ntmps28
    go_wp2_with (go_at_call 33; with_reducible refine cL.mono ?_; rintro e w' ⟨rfl, hw⟩; replace hw := hw.symm; subst hw)
    go_ret2
    exact ⟨rfl, rfl⟩
  · go_enter Try.func28, Try.ntmps28
    go_wp2_with (go_at_call 33; with_reducible refine cL.mono ?_; rintro e w' ⟨rfl, hw⟩; replace hw := hw.symm; subst hw)
    go_ret2
    exact ⟨rfl, rfl⟩
theorem part_cells {w : World} {base g n c k q : Nat} {f : Nat → Nat} (ho : Owns w base g n c f) (hq : k + q ≤ n) (j : Nat) (v : Value) (hj : (bl (fun i => f (k + i)) q)[j]? = some v) : w.cell? ((⟨g, k, none⟩ : Addr).add j) = some v := by
  have hjn : j < q := by
    have := (List.getElem?_eq_some_iff.mp hj).1
    rwa [bl_length] at this
  rw [bl_get _ _ _ hjn] at hj
  have := World.ownsRow.cellAt ho (k + j) (by omega)
  rw [bl_get _ _ _ (by omega)] at this
  rw [← hj, ← this]
  by_cases h0 : j = 0
  · subst h0; simp [Addr.add]
  · simp [Addr.add, h0]
set_option maxHeartbeats 2000000 in
set_option maxRecDepth 100000 in
theorem take_some (b base g n c k q : Nat) (f : Nat → Nat) (w : World) (h : Rd w b 75 (mine g n c) k) (ho : Owns w base g n c f) (hq0 : 0 < q) (hq : k + q ≤ n) (hnc : n ≤ c) (hc : (c : Int) ≤ 9223372036854775807) (hn : (n : Int) ≤ 140737488351300) :
    Calls Try.prog 28 #[rp b, .int .i64 ((q : Nat) : Int)] w fun e w' => e = .returned (.tuple #[mine w.heap.size q q, .int .i64 0]) ∧
      ∃ w1, Below w.heap.size w w1 ∧ Owns w1 w.heap.size w.heap.size q q (fun i => f (k + i)) ∧ w' = w1.setCell ⟨b, 1, none⟩ (.int .i64 ((k + q : Nat) : Int)) := by
  obtain ⟨i0, hi, hz0, hz1, hz2⟩ := info_parts info5
  have hsz1 : (Try.prog.info? 5).map (·.size) = some 1 := by rw [hi]; simp [hz1]
  have cL := left_any b (some ⟨g, 0, none⟩) n c k w h (by omega) (by omega)
  have c0 := h.c0
  have c1 := h.c1
  have fz := h.fz 1
  have hS : ∀ w', Below w.heap.size w w' → w'.cell? ⟨b, 0, none⟩ = some (mine g n c) ∧ w'.cell? ⟨b, 1, none⟩ = some (.int .i64 k) ∧ w'.frozen? ⟨b, 1, none⟩ = false := fun w' hb => ⟨(h.later hb).c0, (h.later hb).c1, (h.later hb).fz 1⟩
  have hsrc : ∀ w', Below w.heap.size w w' → ∀ j v, (bl (fun i => f (k + i)) q)[j]? = some v → w'.cell? ((⟨g, k, none⟩ : Addr).add j) = some v := fun w' hb => part_cells (Owns.later ho hb) hq
  have hq1 : (0 : Int) < (q : Int) := by omega
  have hq2 : (k : Int) + (q : Int) ≤ (n : Int) := by omega
  have hq3 : ¬ ((n : Int) - (k : Int) < (q : Int)) := by omega
  have hk0 : (0 : Int) ≤ (k : Int) := by omega
  have hk1 : (k : Int) ≤ (n : Int) := by omega
  have hncI : (n : Int) ≤ (c : Int) := by omega
  have hkc : k < c := by omega
  clear h ho
  go_enter Try.func28, Try.ntmps28
  go_wp2_with (first
    | (go_at_call 33; with_reducible refine cL.mono ?_; rintro e w' ⟨rfl, hw⟩; replace hw := hw.symm; subst hw)
    | (at_make; refine wpList_make_lc _ rfl _ _ 22 rfl 5 i0 (.int .u8 0) Try.underlying22 hi hz0 rfl hz1 .i64 .i64 _ _ q q rfl rfl rfl rfl (Nat.le_refl _) (by rw [hz2]; omega) (by omega) ?_; intro w1 hh1 hb1))
  have hh1d : w1.drew.heap[w.heap.size]? = some (.cells (List.replicate q (Value.int .u8 0)).toArray 5 (0, 0)) := hh1.out
  have hcp := run_copy_row (P := Try.prog) w1.drew 22 22 3 5 w.heap.size 0 q q ⟨g, k, none⟩ (n - k) (c - k) (List.replicate q (Value.int .u8 0)).toArray 5 (bl (fun i => f (k + i)) q) Try.underlying22 hsz1 hh1d (by rw [bl_length]; show q = min (n - k) q; omega) (hsrc _ hb1.drew) (by simp [bl_length]) (bl_one _ q)
  rw [bl_length] at hcp
  have hb2 := below_setRow (cs := ((List.replicate q (Value.int .u8 0)).toArray.toList.take 0 ++ bl (fun i => f (k + i)) q ++ (List.replicate q (Value.int .u8 0)).toArray.toList.drop (0 + q)).toArray) hb1.drew (Nat.le_refl _)
  have ho2 : Owns (w1.drew.setRow w.heap.size ((List.replicate q (Value.int .u8 0)).toArray.toList.take 0 ++ bl (fun i => f (k + i)) q ++ (List.replicate q (Value.int .u8 0)).toArray.toList.drop (0 + q)).toArray) w.heap.size w.heap.size q q (fun i => f (k + i)) := by
    refine owns_copied _ w.heap.size q q _ (Nat.le_refl _) (by omega) ?_
    rw [setRow_heap _ _ _ _ _ _ hh1d]
    simp [splice, bl_length]
  generalize w1.drew.setRow w.heap.size ((List.replicate q (Value.int .u8 0)).toArray.toList.take 0 ++ bl (fun i => f (k + i)) q ++ (List.replicate q (Value.int .u8 0)).toArray.toList.drop (0 + q)).toArray = w2 at *
  obtain ⟨d10, d11, d12⟩ := hS _ hb1.drew
  obtain ⟨d20, d21, d22⟩ := hS _ hb2
  have hcp' : Sem.run Try.prog (Builtin.copy_ #[22, 22] 3 #[.slice (some ⟨w.heap.size, 0, none⟩) q q, .slice (some ⟨g, k, none⟩) (n - k) (c - k)]) w1.drew = .ok (.int .i64 ((q : Nat) : Int)) w2 := hcp
  clear hS hsrc hcp cL hh1 hh1d
  have hwk : IntKind.i64.wrap ((k : Int) + (q : Int)) = ((k + q : Nat) : Int) := by rw [IntKind.wrap_i64]; omega
  go_region
  go_wp2
  go_ret2
  exact ⟨rfl, w2, hb2, ho2, rfl⟩
end Go.Proofs.Ytecimplpfghikaa.octet
