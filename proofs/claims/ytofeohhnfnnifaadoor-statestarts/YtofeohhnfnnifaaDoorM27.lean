/- Package state's local, operation by operation. -/
import Derived.Test.YtofeohhnfnnifaaDoorM26
import Derived.BigRegion
import Derived.Test.YtofeohhnfnnifaaDoorM7
import Derived.RangeFuncNested
import Derived.RangeFuncBound
import Derived.RangeFuncCalls
import Derived.RangeFuncLeaves
import Derived.OwnWalkIn
import Derived.TacticsInMore
import Derived.LoopNIn
import Derived.LoopIn
import Derived.OrdersIn
namespace Go.Proofs.YtofeohhnfnnifaaDoor.pg
open Go.ChangeShapes Go.WideShapes Go.ChangeAt Go.RowKit
set_option linter.unusedVariables false
set_option linter.unusedSimpArgs false
set_option maxRecDepth 100000
set_option maxHeartbeats 1000000 in
theorem local_move (g : Gr) (a b c n v : Int) (hl : g.rg.length = 8) (p0 : 0 ≤ g.pc) (p1 : g.pc < 64) (ha0 : 0 ≤ a) (ha1 : a < 8) (hb0 : 0 ≤ b) (hb1' : b < 8) (hv : Hid (g.get b = v)) (w : World) : LocC g ⟨41, a, b, c, n⟩ ((g.set a v).adv) w := by
  have hb1 := hb1'
  have hX : ((g.set a v).adv).rg.length = 8 := by simp [Gr.adv, Gr.set, Gr.end, zero8, hl]
  have hE := le_new w g ⟨41, a, b, c, n⟩
  have xa := ix8 w.heap.size a ha0 ha1
  have xb := ix8 w.heap.size b hb0 hb1
  go_enter Tryd.func35, Tryd.ntmps35
  go_upto_region 1 with fail
  rw [show (Obj.cells #[.int .i64 0, .int .i64 0, .int .i64 0, .int .i64 0, .int .i64 0, .int .i64 0, .int .i64 0, .int .i64 0, .int .i64 0, .int .i64 0, .int .i64 0, .int .i64 0] 35) = objG zeroG from rfl]
  generalize ((w.alloc (objG g)).alloc (objI ⟨41, a, b, c, n⟩)).alloc (objG zeroG) = W at *
  have hEH : Hid (LE w W g ⟨41, a, b, c, n⟩) := hE
  obtain ⟨i0, i1, i2, i3, i4⟩ := hE.i
  have ra := hE.g.reg hl a ha0 ha1
  have fa := hE.g.fz (4 + a.toNat)
  have rb := hE.g.reg hl b hb0 hb1
  have fb := hE.g.fz (4 + b.toNat)
  clear hE hb1
  rw [hv.out] at rb
  go_wp2_with fail
  go_region
  obtain ⟨W1, hW1⟩ : ∃ W1, W1 = (W.setCell ⟨w.heap.size, 4 + a.toNat, none⟩ (.int .i64 v)).drew := ⟨_, rfl⟩
  have e1 : W.drew.setCell ⟨w.heap.size, 4 + a.toNat, none⟩ (.int .i64 v) = W1 := by rw [hW1]; rfl
  have hg1 : InG W1 w.heap.size (g.set a v) := by rw [hW1]; exact hEH.out.g.setR a v
  have hz1 : InG W1 (w.heap.size + 2) zeroG := by rw [hW1]; exact (Below.heap_setCell _ _ _ _ (by simp)).trans hEH.out.z
  have hb1 : Hid (Below w.heap.size w W1) := by rw [hW1]; exact (hEH.out.b.setCell (p := ⟨w.heap.size, 4 + a.toNat, none⟩) (Nat.le_refl _) _).drew
  have x2 := hg1.c2
  have f2 := hg1.fz 2
  have hg1H : Hid (InG W1 w.heap.size (g.set a v)) := hg1
  have hz1H : Hid (InG W1 (w.heap.size + 2) zeroG) := hz1
  first | rw [e1] | rw [← hW1]
  clear hW1 e1 hg1 hz1 ra fa rb fb i0 i1 i2 i3 i4
  go_wp2_with (first
    | (refine wpList_puti rfl 3 _ _ rfl ⟨w.heap.size, 2, none⟩ rfl (g.pc + 1) (by rw [← pc1 p0 p1]; rfl) (by kernel_rfl) _ x2 f2 ?_; intro W2 hW2; (have hg2 : InG W2 w.heap.size (g.set a v).adv := by rw [hW2]; exact hg1H.out.setP (g.pc + 1)); (have hz2 : InG W2 (w.heap.size + 2) zeroG := by rw [hW2]; exact (Below.heap_setCell _ _ _ _ (by simp)).trans hz1H.out); (have hb2 : Hid (Below w.heap.size w W2) := by rw [hW2]; exact hb1.out.setCell (p := ⟨w.heap.size, 2, none⟩) (Nat.le_refl _) _); clear hW2 x2 f2)
    | (refine wpList_load_row rfl 35 _ rfl w.heap.size rfl _ _ _ _ hg2 Tryd.underlying35 rfl (infoG hX) ?_)
    | (refine wpList_store_row rfl 35 _ _ rfl (w.heap.size + 2) (Gr.cells ((g.set a v).adv)).toArray rfl rfl _ _ hz2 (infoG hX) (sizeGG rfl hX) (oneG _) ?_))
  exact bodyPost_ret (results_g Tryd.results35 _ _ (w.heap.size + 2) ((g.set a v).adv) hX rfl (hz2.set _)) rfl ⟨rfl, below_setRowG hb2.out (by omega) _⟩
set_option maxHeartbeats 1000000 in
theorem local_jump (g : Gr) (a b c n : Int) (hl : g.rg.length = 8) (p0 : 0 ≤ g.pc) (p1 : g.pc < 64) (w : World) : LocC g ⟨42, a, b, c, n⟩ { g with pc := a } w := by
  have hX : ({ g with pc := a }).rg.length = 8 := by simp [Gr.adv, Gr.set, Gr.end, zero8, hl]
  have hE := le_new w g ⟨42, a, b, c, n⟩
  go_enter Tryd.func35, Tryd.ntmps35
  go_upto_region 1 with fail
  rw [show (Obj.cells #[.int .i64 0, .int .i64 0, .int .i64 0, .int .i64 0, .int .i64 0, .int .i64 0, .int .i64 0, .int .i64 0, .int .i64 0, .int .i64 0, .int .i64 0, .int .i64 0] 35) = objG zeroG from rfl]
  generalize ((w.alloc (objG g)).alloc (objI ⟨42, a, b, c, n⟩)).alloc (objG zeroG) = W at *
  have hEH : Hid (LE w W g ⟨42, a, b, c, n⟩) := hE
  obtain ⟨i0, i1, i2, i3, i4⟩ := hE.i
  have hg1H : Hid (InG W w.heap.size g) := hEH.out.g
  have hz1H : Hid (InG W (w.heap.size + 2) zeroG) := hEH.out.z
  have hb1 : Hid (Below w.heap.size w W) := hEH.out.b
  have x2 := hEH.out.g.c2
  have f2 := hEH.out.g.fz 2
  clear hE
  go_wp2_with (first
    | (refine wpList_puti rfl 3 _ _ rfl ⟨w.heap.size, 2, none⟩ rfl (a) rfl (by kernel_rfl) _ x2 f2 ?_; intro W2 hW2; (have hg2 : InG W2 w.heap.size { g with pc := a } := by rw [hW2]; exact hg1H.out.setP (a)); (have hz2 : InG W2 (w.heap.size + 2) zeroG := by rw [hW2]; exact (Below.heap_setCell _ _ _ _ (by simp)).trans hz1H.out); (have hb2 : Hid (Below w.heap.size w W2) := by rw [hW2]; exact hb1.out.setCell (p := ⟨w.heap.size, 2, none⟩) (Nat.le_refl _) _); clear hW2 x2 f2)
    | (refine wpList_load_row rfl 35 _ rfl w.heap.size rfl _ _ _ _ hg2 Tryd.underlying35 rfl (infoG hX) ?_)
    | (refine wpList_store_row rfl 35 _ _ rfl (w.heap.size + 2) (Gr.cells { g with pc := a }).toArray rfl rfl _ _ hz2 (infoG hX) (sizeGG rfl hX) (oneG _) ?_))
  exact bodyPost_ret (results_g Tryd.results35 _ _ (w.heap.size + 2) { g with pc := a } hX rfl (hz2.set _)) rfl ⟨rfl, below_setRowG hb2.out (by omega) _⟩
set_option maxHeartbeats 1000000 in
theorem local_if1 (g : Gr) (a b c n : Int) (hl : g.rg.length = 8) (p0 : 0 ≤ g.pc) (p1 : g.pc < 64) (ha0 : 0 ≤ a) (ha1 : a < 8) (hz : g.get a ≠ 0) (w : World) : LocC g ⟨43, a, b, c, n⟩ { g with pc := b } w := by
  have hX : ({ g with pc := b }).rg.length = 8 := by simp [Gr.adv, Gr.set, Gr.end, zero8, hl]
  have hE := le_new w g ⟨43, a, b, c, n⟩
  have xa := ix8 w.heap.size a ha0 ha1
  go_enter Tryd.func35, Tryd.ntmps35
  go_upto_region 1 with fail
  rw [show (Obj.cells #[.int .i64 0, .int .i64 0, .int .i64 0, .int .i64 0, .int .i64 0, .int .i64 0, .int .i64 0, .int .i64 0, .int .i64 0, .int .i64 0, .int .i64 0, .int .i64 0] 35) = objG zeroG from rfl]
  generalize ((w.alloc (objG g)).alloc (objI ⟨43, a, b, c, n⟩)).alloc (objG zeroG) = W at *
  have hEH : Hid (LE w W g ⟨43, a, b, c, n⟩) := hE
  obtain ⟨i0, i1, i2, i3, i4⟩ := hE.i
  have ra := hE.g.reg hl a ha0 ha1
  have fa := hE.g.fz (4 + a.toNat)
  have hg1H : Hid (InG W w.heap.size g) := hEH.out.g
  have hz1H : Hid (InG W (w.heap.size + 2) zeroG) := hEH.out.z
  have hb1 : Hid (Below w.heap.size w W) := hEH.out.b
  have x2 := hEH.out.g.c2
  have f2 := hEH.out.g.fz 2
  clear hE
  generalize g.get a = v at *
  have hv : (v != 0) = true := by simpa using hz
  clear hz
  go_wp2_with (first
    | (refine wpList_puti rfl 3 _ _ rfl ⟨w.heap.size, 2, none⟩ rfl (b) rfl (by kernel_rfl) _ x2 f2 ?_; intro W2 hW2; (have hg2 : InG W2 w.heap.size { g with pc := b } := by rw [hW2]; exact hg1H.out.setP (b)); (have hz2 : InG W2 (w.heap.size + 2) zeroG := by rw [hW2]; exact (Below.heap_setCell _ _ _ _ (by simp)).trans hz1H.out); (have hb2 : Hid (Below w.heap.size w W2) := by rw [hW2]; exact hb1.out.setCell (p := ⟨w.heap.size, 2, none⟩) (Nat.le_refl _) _); clear hW2 x2 f2)
    | (refine wpList_load_row rfl 35 _ rfl w.heap.size rfl _ _ _ _ hg2 Tryd.underlying35 rfl (infoG hX) ?_)
    | (refine wpList_store_row rfl 35 _ _ rfl (w.heap.size + 2) (Gr.cells { g with pc := b }).toArray rfl rfl _ _ hz2 (infoG hX) (sizeGG rfl hX) (oneG _) ?_))
  exact bodyPost_ret (results_g Tryd.results35 _ _ (w.heap.size + 2) { g with pc := b } hX rfl (hz2.set _)) rfl ⟨rfl, below_setRowG hb2.out (by omega) _⟩
set_option maxHeartbeats 1000000 in
theorem local_if0 (g : Gr) (a b c n : Int) (hl : g.rg.length = 8) (p0 : 0 ≤ g.pc) (p1 : g.pc < 64) (ha0 : 0 ≤ a) (ha1 : a < 8) (hz : g.get a = 0) (w : World) : LocC g ⟨43, a, b, c, n⟩ g.adv w := by
  have hX : (g.adv).rg.length = 8 := by simp [Gr.adv, Gr.set, Gr.end, zero8, hl]
  have hE := le_new w g ⟨43, a, b, c, n⟩
  have xa := ix8 w.heap.size a ha0 ha1
  go_enter Tryd.func35, Tryd.ntmps35
  go_upto_region 1 with fail
  rw [show (Obj.cells #[.int .i64 0, .int .i64 0, .int .i64 0, .int .i64 0, .int .i64 0, .int .i64 0, .int .i64 0, .int .i64 0, .int .i64 0, .int .i64 0, .int .i64 0, .int .i64 0] 35) = objG zeroG from rfl]
  generalize ((w.alloc (objG g)).alloc (objI ⟨43, a, b, c, n⟩)).alloc (objG zeroG) = W at *
  have hEH : Hid (LE w W g ⟨43, a, b, c, n⟩) := hE
  obtain ⟨i0, i1, i2, i3, i4⟩ := hE.i
  have ra := hE.g.reg hl a ha0 ha1
  have fa := hE.g.fz (4 + a.toNat)
  have hg1H : Hid (InG W w.heap.size g) := hEH.out.g
  have hz1H : Hid (InG W (w.heap.size + 2) zeroG) := hEH.out.z
  have hb1 : Hid (Below w.heap.size w W) := hEH.out.b
  have x2 := hEH.out.g.c2
  have f2 := hEH.out.g.fz 2
  clear hE
  rw [hz] at ra
  clear hz
  go_wp2_with (first
    | (refine wpList_puti rfl 3 _ _ rfl ⟨w.heap.size, 2, none⟩ rfl (g.pc + 1) (by rw [← pc1 p0 p1]; rfl) (by kernel_rfl) _ x2 f2 ?_; intro W2 hW2; (have hg2 : InG W2 w.heap.size g.adv := by rw [hW2]; exact hg1H.out.setP (g.pc + 1)); (have hz2 : InG W2 (w.heap.size + 2) zeroG := by rw [hW2]; exact (Below.heap_setCell _ _ _ _ (by simp)).trans hz1H.out); (have hb2 : Hid (Below w.heap.size w W2) := by rw [hW2]; exact hb1.out.setCell (p := ⟨w.heap.size, 2, none⟩) (Nat.le_refl _) _); clear hW2 x2 f2)
    | (refine wpList_load_row rfl 35 _ rfl w.heap.size rfl _ _ _ _ hg2 Tryd.underlying35 rfl (infoG hX) ?_)
    | (refine wpList_store_row rfl 35 _ _ rfl (w.heap.size + 2) (Gr.cells (g.adv)).toArray rfl rfl _ _ hz2 (infoG hX) (sizeGG rfl hX) (oneG _) ?_))
  exact bodyPost_ret (results_g Tryd.results35 _ _ (w.heap.size + 2) g.adv hX rfl (hz2.set _)) rfl ⟨rfl, below_setRowG hb2.out (by omega) _⟩
set_option maxHeartbeats 1000000 in
theorem local_assert1 (g : Gr) (a b c n : Int) (hl : g.rg.length = 8) (p0 : 0 ≤ g.pc) (p1 : g.pc < 64) (ha0 : 0 ≤ a) (ha1 : a < 8) (hz : g.get a ≠ 0) (w : World) : LocC g ⟨44, a, b, c, n⟩ g.adv w := by
  have hX : (g.adv).rg.length = 8 := by simp [Gr.adv, Gr.set, Gr.end, zero8, hl]
  have hE := le_new w g ⟨44, a, b, c, n⟩
  have xa := ix8 w.heap.size a ha0 ha1
  go_enter Tryd.func35, Tryd.ntmps35
  go_upto_region 1 with fail
  rw [show (Obj.cells #[.int .i64 0, .int .i64 0, .int .i64 0, .int .i64 0, .int .i64 0, .int .i64 0, .int .i64 0, .int .i64 0, .int .i64 0, .int .i64 0, .int .i64 0, .int .i64 0] 35) = objG zeroG from rfl]
  generalize ((w.alloc (objG g)).alloc (objI ⟨44, a, b, c, n⟩)).alloc (objG zeroG) = W at *
  have hEH : Hid (LE w W g ⟨44, a, b, c, n⟩) := hE
  obtain ⟨i0, i1, i2, i3, i4⟩ := hE.i
  have ra := hE.g.reg hl a ha0 ha1
  have fa := hE.g.fz (4 + a.toNat)
  have hg1H : Hid (InG W w.heap.size g) := hEH.out.g
  have hz1H : Hid (InG W (w.heap.size + 2) zeroG) := hEH.out.z
  have hb1 : Hid (Below w.heap.size w W) := hEH.out.b
  have x2 := hEH.out.g.c2
  have f2 := hEH.out.g.fz 2
  clear hE
  generalize g.get a = v at *
  have hv : (v == 0) = false := by simpa using hz
  clear hz
  go_wp2_with (first
    | (refine wpList_puti rfl 3 _ _ rfl ⟨w.heap.size, 2, none⟩ rfl (g.pc + 1) (by rw [← pc1 p0 p1]; rfl) (by kernel_rfl) _ x2 f2 ?_; intro W2 hW2; (have hg2 : InG W2 w.heap.size g.adv := by rw [hW2]; exact hg1H.out.setP (g.pc + 1)); (have hz2 : InG W2 (w.heap.size + 2) zeroG := by rw [hW2]; exact (Below.heap_setCell _ _ _ _ (by simp)).trans hz1H.out); (have hb2 : Hid (Below w.heap.size w W2) := by rw [hW2]; exact hb1.out.setCell (p := ⟨w.heap.size, 2, none⟩) (Nat.le_refl _) _); clear hW2 x2 f2)
    | (refine wpList_load_row rfl 35 _ rfl w.heap.size rfl _ _ _ _ hg2 Tryd.underlying35 rfl (infoG hX) ?_)
    | (refine wpList_store_row rfl 35 _ _ rfl (w.heap.size + 2) (Gr.cells (g.adv)).toArray rfl rfl _ _ hz2 (infoG hX) (sizeGG rfl hX) (oneG _) ?_))
  exact bodyPost_ret (results_g Tryd.results35 _ _ (w.heap.size + 2) g.adv hX rfl (hz2.set _)) rfl ⟨rfl, below_setRowG hb2.out (by omega) _⟩
set_option maxHeartbeats 1000000 in
theorem local_assert0 (g : Gr) (a b c n : Int) (hl : g.rg.length = 8) (p0 : 0 ≤ g.pc) (p1 : g.pc < 64) (ha0 : 0 ≤ a) (ha1 : a < 8) (hz : g.get a = 0) (w : World) : LocC g ⟨44, a, b, c, n⟩ (g.end 4 1) w := by
  have hX : (g.end 4 1).rg.length = 8 := by simp [Gr.adv, Gr.set, Gr.end, zero8, hl]
  have cE := ended_any g 4 1
  have hE := le_new w g ⟨44, a, b, c, n⟩
  have xa := ix8 w.heap.size a ha0 ha1
  go_enter Tryd.func35, Tryd.ntmps35
  go_upto_region 1 with fail
  rw [show (Obj.cells #[.int .i64 0, .int .i64 0, .int .i64 0, .int .i64 0, .int .i64 0, .int .i64 0, .int .i64 0, .int .i64 0, .int .i64 0, .int .i64 0, .int .i64 0, .int .i64 0] 35) = objG zeroG from rfl]
  generalize ((w.alloc (objG g)).alloc (objI ⟨44, a, b, c, n⟩)).alloc (objG zeroG) = W at *
  have hEH : Hid (LE w W g ⟨44, a, b, c, n⟩) := hE
  obtain ⟨i0, i1, i2, i3, i4⟩ := hE.i
  have ra := hE.g.reg hl a ha0 ha1
  have fa := hE.g.fz (4 + a.toNat)
  have hg2 : InG W w.heap.size g := hEH.out.g
  have hz1 : InG W (w.heap.size + 2) zeroG := hEH.out.z
  have hb1 : Hid (Below w.heap.size w W) := hEH.out.b
  clear hE
  rw [hz] at ra
  clear hz
  go_wp2_with (first
    | (refine wpList_load_row rfl 35 _ rfl w.heap.size rfl _ _ _ _ hg2 Tryd.underlying35 rfl (infoG hl) ?_)
    | (go_at_call 54; (with_reducible refine (cE _).mono ?_); rintro e W2 ⟨rfl, hb3⟩; (have hz2 := hz1.later hb3); (have hb2 : Hid (Below w.heap.size w W2) := bthen hb1.out hb3))
    | (refine wpList_store_row rfl 35 _ _ rfl (w.heap.size + 2) (Gr.cells (g.end 4 1)).toArray rfl rfl _ _ hz2 (infoG hX) (sizeGG rfl hX) (oneG _) ?_))
  exact bodyPost_ret (results_g Tryd.results35 _ _ (w.heap.size + 2) (g.end 4 1) hX rfl (hz2.set _)) rfl ⟨rfl, below_setRowG hb2.out (by omega) _⟩
set_option maxHeartbeats 1000000 in
theorem local_end (g : Gr) (a b c n : Int) (hl : g.rg.length = 8) (p0 : 0 ≤ g.pc) (p1 : g.pc < 64) (w : World) : LocC g ⟨45, a, b, c, n⟩ (g.end 3 0) w := by
  have hX : (g.end 3 0).rg.length = 8 := by simp [Gr.adv, Gr.set, Gr.end, zero8, hl]
  have cE := ended_any g 3 0
  have hE := le_new w g ⟨45, a, b, c, n⟩
  go_enter Tryd.func35, Tryd.ntmps35
  go_upto_region 1 with fail
  rw [show (Obj.cells #[.int .i64 0, .int .i64 0, .int .i64 0, .int .i64 0, .int .i64 0, .int .i64 0, .int .i64 0, .int .i64 0, .int .i64 0, .int .i64 0, .int .i64 0, .int .i64 0] 35) = objG zeroG from rfl]
  generalize ((w.alloc (objG g)).alloc (objI ⟨45, a, b, c, n⟩)).alloc (objG zeroG) = W at *
  have hEH : Hid (LE w W g ⟨45, a, b, c, n⟩) := hE
  obtain ⟨i0, i1, i2, i3, i4⟩ := hE.i
  have hg2 : InG W w.heap.size g := hEH.out.g
  have hz1 : InG W (w.heap.size + 2) zeroG := hEH.out.z
  have hb1 : Hid (Below w.heap.size w W) := hEH.out.b
  clear hE
  go_wp2_with (first
    | (refine wpList_load_row rfl 35 _ rfl w.heap.size rfl _ _ _ _ hg2 Tryd.underlying35 rfl (infoG hl) ?_)
    | (go_at_call 54; (with_reducible refine (cE _).mono ?_); rintro e W2 ⟨rfl, hb3⟩; (have hz2 := hz1.later hb3); (have hb2 : Hid (Below w.heap.size w W2) := bthen hb1.out hb3))
    | (refine wpList_store_row rfl 35 _ _ rfl (w.heap.size + 2) (Gr.cells (g.end 3 0)).toArray rfl rfl _ _ hz2 (infoG hX) (sizeGG rfl hX) (oneG _) ?_))
  exact bodyPost_ret (results_g Tryd.results35 _ _ (w.heap.size + 2) (g.end 3 0) hX rfl (hz2.set _)) rfl ⟨rfl, below_setRowG hb2.out (by omega) _⟩
set_option maxHeartbeats 1000000 in
theorem local_word (g : Gr) (k a b c n x y : Int) (hl : g.rg.length = 8) (p0 : 0 ≤ g.pc) (p1 : g.pc < 64) (k1 : 1 ≤ k) (k2 : k ≤ 36) (ha0 : 0 ≤ a) (ha1 : a < 8) (hb0 : 0 ≤ b) (hb1' : b < 8) (hc0 : 0 ≤ c) (hc1 : c < 8) (cA : ∀ wx, Calls Tryd.prog 55 #[.int .i64 k, .int .i64 (g.get b), .int .i64 (g.get c)] wx fun e w' => e = .returned (.tuple #[.int .i64 x, .int .i64 y]) ∧ w' = wx) (y1 : (y == 20) = false) (y2 : (y == 21) = false) (w : World) : LocC g ⟨k, a, b, c, n⟩ ((g.set a x).adv) w := by
  have hb1 := hb1'
  have hX : ((g.set a x).adv).rg.length = 8 := by simp [Gr.adv, Gr.set, Gr.end, zero8, hl]
  have e40 : (k == 40) = false := by simp; omega
  have e41 : (k == 41) = false := by simp; omega
  have e42 : (k == 42) = false := by simp; omega
  have e43 : (k == 43) = false := by simp; omega
  have e44 : (k == 44) = false := by simp; omega
  have e45 : (k == 45) = false := by simp; omega
  have cA' : ∀ wx, Calls Tryd.prog 55 #[.int .i64 k, .int .i64 (g.get b), .int .i64 (g.get c)] wx fun e w' => e = .returned (.tuple #[.int .i64 x, .int .i64 y]) ∧ Below wx.heap.size wx w' := fun wx => (cA wx).mono fun e w' ⟨he, hw⟩ => ⟨he, by rw [hw]; exact Below.refl _ _⟩
  have hE := le_new w g ⟨k, a, b, c, n⟩
  have xa := ix8 w.heap.size a ha0 ha1
  have xb := ix8 w.heap.size b hb0 hb1
  have xc := ix8 w.heap.size c hc0 hc1
  go_enter Tryd.func35, Tryd.ntmps35
  go_upto_region 1 with fail
  rw [show (Obj.cells #[.int .i64 0, .int .i64 0, .int .i64 0, .int .i64 0, .int .i64 0, .int .i64 0, .int .i64 0, .int .i64 0, .int .i64 0, .int .i64 0, .int .i64 0, .int .i64 0] 35) = objG zeroG from rfl]
  generalize ((w.alloc (objG g)).alloc (objI ⟨k, a, b, c, n⟩)).alloc (objG zeroG) = W at *
  have hEH : Hid (LE w W g ⟨k, a, b, c, n⟩) := hE
  obtain ⟨i0, i1, i2, i3, i4⟩ := hE.i
  have ra := hE.g.reg hl a ha0 ha1
  have fa := hE.g.fz (4 + a.toNat)
  have rb := hE.g.reg hl b hb0 hb1
  have fb := hE.g.fz (4 + b.toNat)
  have rc := hE.g.reg hl c hc0 hc1
  have fc := hE.g.fz (4 + c.toNat)
  clear hE hb1 k1 k2 cA
  have rbv := rb
  have rcv := rc
  generalize g.get b = vb at *
  generalize g.get c = vc at *
  go_wp2_with fail
  have s0 := fun s => bey_cell i0 s
  have s1 := fun s => bey_cell i1 s
  have s2 := fun s => bey_cell i2 s
  have s3 := fun s => bey_cell i3 s
  have sb := fun s => bey_cell rb s
  have sc := fun s => bey_cell rc s
  have hne := bey_some W
  refine wp_region_cls (Bey W) (by kernel_rfl) (by kernel_rfl) (bey_drew W) ?_
  repeat (go_big_quiet_step ((go_at_call 55; exact calls_bey (cA' _))))
  refine wpQuiet_nil ?_
  intro _ hw'
  obtain ⟨sq, hw''⟩ := hw'
  subst hw''
  have hEQ : Hid (Below W.heap.size W sq.w) := sq.h
  have hEB : Hid (Below w.heap.size w sq.w) := bthen hEH.out.b sq.h
  have hgQ : InG sq.w w.heap.size g := hEH.out.g.later sq.h
  have hzQ : InG sq.w (w.heap.size + 2) zeroG := hEH.out.z.later sq.h
  obtain ⟨j0, j1, j2, j3, j4⟩ := hEH.out.i.later sq.h
  clear s0 s1 s2 s3 sb sc hne hEQ i0 i1 i2 i3 i4 ra rb rc fa fb fc rbv rcv cA'
  have ra := hgQ.reg hl a ha0 ha1
  have fa := hgQ.fz (4 + a.toNat)
  generalize sq.w = V at *
  have hgH : Hid (InG V w.heap.size g) := hgQ
  have hzH : Hid (InG V (w.heap.size + 2) zeroG) := hzQ
  clear hgQ hzQ
  go_wp2_with (first
    | (refine wpList_puti rfl 2 _ _ rfl ⟨w.heap.size, 4 + a.toNat, none⟩ rfl (x) rfl (by kernel_rfl) _ ra fa ?_; intro W1 hW1; (have hg1 : InG W1 w.heap.size (g.set a x) := by rw [hW1]; exact hgH.out.setR a (x)); (have hz1 : InG W1 (w.heap.size + 2) zeroG := by rw [hW1]; exact (Below.heap_setCell _ _ _ _ (by simp)).trans hzH.out); (have hb1 : Hid (Below w.heap.size w W1) := by rw [hW1]; exact hEB.out.setCell (p := ⟨w.heap.size, 4 + a.toNat, none⟩) (Nat.le_refl _) _); (have x2 := hg1.c2); (have f2 := hg1.fz 2); (have hg1H : Hid (InG W1 w.heap.size (g.set a x)) := hg1); (have hz1H : Hid (InG W1 (w.heap.size + 2) zeroG) := hz1); clear hW1 hg1 hz1 ra fa j0 j1 j2 j3 j4)
    | (refine wpList_puti rfl 3 _ _ rfl ⟨w.heap.size, 2, none⟩ rfl (g.pc + 1) (by rw [← pc1 p0 p1]; rfl) (by kernel_rfl) _ x2 f2 ?_; intro W2 hW2; (have hg2 : InG W2 w.heap.size (g.set a x).adv := by rw [hW2]; exact hg1H.out.setP (g.pc + 1)); (have hz2 : InG W2 (w.heap.size + 2) zeroG := by rw [hW2]; exact (Below.heap_setCell _ _ _ _ (by simp)).trans hz1H.out); (have hb2 : Hid (Below w.heap.size w W2) := by rw [hW2]; exact hb1.out.setCell (p := ⟨w.heap.size, 2, none⟩) (Nat.le_refl _) _); clear hW2 x2 f2)
    | (refine wpList_load_row rfl 35 _ rfl w.heap.size rfl _ _ _ _ hg2 Tryd.underlying35 rfl (infoG hX) ?_)
    | (refine wpList_store_row rfl 35 _ _ rfl (w.heap.size + 2) (Gr.cells ((g.set a x).adv)).toArray rfl rfl _ _ hz2 (infoG hX) (sizeGG rfl hX) (oneG _) ?_))
  exact bodyPost_ret (results_g Tryd.results35 _ _ (w.heap.size + 2) ((g.set a x).adv) hX rfl (hz2.set _)) rfl ⟨rfl, below_setRowG hb2.out (by omega) _⟩
set_option maxHeartbeats 1000000 in
theorem local_zero (g : Gr) (k a b c n x : Int) (hl : g.rg.length = 8) (p0 : 0 ≤ g.pc) (p1 : g.pc < 64) (k1 : 1 ≤ k) (k2 : k ≤ 36) (ha0 : 0 ≤ a) (ha1 : a < 8) (hb0 : 0 ≤ b) (hb1' : b < 8) (hc0 : 0 ≤ c) (hc1 : c < 8) (cA : ∀ wx, Calls Tryd.prog 55 #[.int .i64 k, .int .i64 (g.get b), .int .i64 (g.get c)] wx fun e w' => e = .returned (.tuple #[.int .i64 x, .int .i64 20]) ∧ w' = wx) (w : World) : LocC g ⟨k, a, b, c, n⟩ (g.end 4 2) w := by
  have hb1 := hb1'
  have hX : (g.end 4 2).rg.length = 8 := by simp [Gr.adv, Gr.set, Gr.end, zero8, hl]
  have cE := ended_any g 4 2
  have e40 : (k == 40) = false := by simp; omega
  have e41 : (k == 41) = false := by simp; omega
  have e42 : (k == 42) = false := by simp; omega
  have e43 : (k == 43) = false := by simp; omega
  have e44 : (k == 44) = false := by simp; omega
  have e45 : (k == 45) = false := by simp; omega
  have cA' : ∀ wx, Calls Tryd.prog 55 #[.int .i64 k, .int .i64 (g.get b), .int .i64 (g.get c)] wx fun e w' => e = .returned (.tuple #[.int .i64 x, .int .i64 20]) ∧ Below wx.heap.size wx w' := fun wx => (cA wx).mono fun e w' ⟨he, hw⟩ => ⟨he, by rw [hw]; exact Below.refl _ _⟩
  have hE := le_new w g ⟨k, a, b, c, n⟩
  have xa := ix8 w.heap.size a ha0 ha1
  have xb := ix8 w.heap.size b hb0 hb1
  have xc := ix8 w.heap.size c hc0 hc1
  go_enter Tryd.func35, Tryd.ntmps35
  go_upto_region 1 with fail
  rw [show (Obj.cells #[.int .i64 0, .int .i64 0, .int .i64 0, .int .i64 0, .int .i64 0, .int .i64 0, .int .i64 0, .int .i64 0, .int .i64 0, .int .i64 0, .int .i64 0, .int .i64 0] 35) = objG zeroG from rfl]
  generalize ((w.alloc (objG g)).alloc (objI ⟨k, a, b, c, n⟩)).alloc (objG zeroG) = W at *
  have hEH : Hid (LE w W g ⟨k, a, b, c, n⟩) := hE
  obtain ⟨i0, i1, i2, i3, i4⟩ := hE.i
  have ra := hE.g.reg hl a ha0 ha1
  have fa := hE.g.fz (4 + a.toNat)
  have rb := hE.g.reg hl b hb0 hb1
  have fb := hE.g.fz (4 + b.toNat)
  have rc := hE.g.reg hl c hc0 hc1
  have fc := hE.g.fz (4 + c.toNat)
  clear hE hb1 k1 k2 cA
  have rbv := rb
  have rcv := rc
  generalize g.get b = vb at *
  generalize g.get c = vc at *
  go_wp2_with fail
  have s0 := fun s => bey_cell i0 s
  have s1 := fun s => bey_cell i1 s
  have s2 := fun s => bey_cell i2 s
  have s3 := fun s => bey_cell i3 s
  have sb := fun s => bey_cell rb s
  have sc := fun s => bey_cell rc s
  have hne := bey_some W
  refine wp_region_cls (Bey W) (by kernel_rfl) (by kernel_rfl) (bey_drew W) ?_
  repeat (go_big_quiet_step ((go_at_call 55; exact calls_bey (cA' _))))
  refine wpQuiet_nil ?_
  intro _ hw'
  obtain ⟨sq, hw''⟩ := hw'
  subst hw''
  have hEQ : Hid (Below W.heap.size W sq.w) := sq.h
  have hEB : Hid (Below w.heap.size w sq.w) := bthen hEH.out.b sq.h
  have hgQ : InG sq.w w.heap.size g := hEH.out.g.later sq.h
  have hzQ : InG sq.w (w.heap.size + 2) zeroG := hEH.out.z.later sq.h
  obtain ⟨j0, j1, j2, j3, j4⟩ := hEH.out.i.later sq.h
  clear s0 s1 s2 s3 sb sc hne hEQ i0 i1 i2 i3 i4 ra rb rc fa fb fc rbv rcv cA'
  have ra := hgQ.reg hl a ha0 ha1
  have fa := hgQ.fz (4 + a.toNat)
  generalize sq.w = V at *
  have hg2 := hgQ
  have hz1 := hzQ
  have hb1 : Hid (Below w.heap.size w V) := hEB.out
  clear ra fa j0 j1 j2 j3 j4 hgQ hzQ
  go_wp2_with (first
    | (refine wpList_load_row rfl 35 _ rfl w.heap.size rfl _ _ _ _ hg2 Tryd.underlying35 rfl (infoG hl) ?_)
    | (go_at_call 54; (with_reducible refine (cE _).mono ?_); rintro e W2 ⟨rfl, hb3⟩; (have hz2 := hz1.later hb3); (have hb2 : Hid (Below w.heap.size w W2) := bthen hb1.out hb3))
    | (refine wpList_store_row rfl 35 _ _ rfl (w.heap.size + 2) (Gr.cells (g.end 4 2)).toArray rfl rfl _ _ hz2 (infoG hX) (sizeGG rfl hX) (oneG _) ?_))
  exact bodyPost_ret (results_g Tryd.results35 _ _ (w.heap.size + 2) (g.end 4 2) hX rfl (hz2.set _)) rfl ⟨rfl, below_setRowG hb2.out (by omega) _⟩
set_option maxHeartbeats 1000000 in
theorem local_shift (g : Gr) (k a b c n x : Int) (hl : g.rg.length = 8) (p0 : 0 ≤ g.pc) (p1 : g.pc < 64) (k1 : 1 ≤ k) (k2 : k ≤ 36) (ha0 : 0 ≤ a) (ha1 : a < 8) (hb0 : 0 ≤ b) (hb1' : b < 8) (hc0 : 0 ≤ c) (hc1 : c < 8) (cA : ∀ wx, Calls Tryd.prog 55 #[.int .i64 k, .int .i64 (g.get b), .int .i64 (g.get c)] wx fun e w' => e = .returned (.tuple #[.int .i64 x, .int .i64 21]) ∧ w' = wx) (w : World) : LocC g ⟨k, a, b, c, n⟩ (g.end 4 3) w := by
  have hb1 := hb1'
  have hX : (g.end 4 3).rg.length = 8 := by simp [Gr.adv, Gr.set, Gr.end, zero8, hl]
  have cE := ended_any g 4 3
  have e40 : (k == 40) = false := by simp; omega
  have e41 : (k == 41) = false := by simp; omega
  have e42 : (k == 42) = false := by simp; omega
  have e43 : (k == 43) = false := by simp; omega
  have e44 : (k == 44) = false := by simp; omega
  have e45 : (k == 45) = false := by simp; omega
  have cA' : ∀ wx, Calls Tryd.prog 55 #[.int .i64 k, .int .i64 (g.get b), .int .i64 (g.get c)] wx fun e w' => e = .returned (.tuple #[.int .i64 x, .int .i64 21]) ∧ Below wx.heap.size wx w' := fun wx => (cA wx).mono fun e w' ⟨he, hw⟩ => ⟨he, by rw [hw]; exact Below.refl _ _⟩
  have hE := le_new w g ⟨k, a, b, c, n⟩
  have xa := ix8 w.heap.size a ha0 ha1
  have xb := ix8 w.heap.size b hb0 hb1
  have xc := ix8 w.heap.size c hc0 hc1
  go_enter Tryd.func35, Tryd.ntmps35
  go_upto_region 1 with fail
  rw [show (Obj.cells #[.int .i64 0, .int .i64 0, .int .i64 0, .int .i64 0, .int .i64 0, .int .i64 0, .int .i64 0, .int .i64 0, .int .i64 0, .int .i64 0, .int .i64 0, .int .i64 0] 35) = objG zeroG from rfl]
  generalize ((w.alloc (objG g)).alloc (objI ⟨k, a, b, c, n⟩)).alloc (objG zeroG) = W at *
  have hEH : Hid (LE w W g ⟨k, a, b, c, n⟩) := hE
  obtain ⟨i0, i1, i2, i3, i4⟩ := hE.i
  have ra := hE.g.reg hl a ha0 ha1
  have fa := hE.g.fz (4 + a.toNat)
  have rb := hE.g.reg hl b hb0 hb1
  have fb := hE.g.fz (4 + b.toNat)
  have rc := hE.g.reg hl c hc0 hc1
  have fc := hE.g.fz (4 + c.toNat)
  clear hE hb1 k1 k2 cA
  have rbv := rb
  have rcv := rc
  generalize g.get b = vb at *
  generalize g.get c = vc at *
  go_wp2_with fail
  have s0 := fun s => bey_cell i0 s
  have s1 := fun s => bey_cell i1 s
  have s2 := fun s => bey_cell i2 s
  have s3 := fun s => bey_cell i3 s
  have sb := fun s => bey_cell rb s
  have sc := fun s => bey_cell rc s
  have hne := bey_some W
  refine wp_region_cls (Bey W) (by kernel_rfl) (by kernel_rfl) (bey_drew W) ?_
  repeat (go_big_quiet_step ((go_at_call 55; exact calls_bey (cA' _))))
  refine wpQuiet_nil ?_
  intro _ hw'
  obtain ⟨sq, hw''⟩ := hw'
  subst hw''
  have hEQ : Hid (Below W.heap.size W sq.w) := sq.h
  have hEB : Hid (Below w.heap.size w sq.w) := bthen hEH.out.b sq.h
  have hgQ : InG sq.w w.heap.size g := hEH.out.g.later sq.h
  have hzQ : InG sq.w (w.heap.size + 2) zeroG := hEH.out.z.later sq.h
  obtain ⟨j0, j1, j2, j3, j4⟩ := hEH.out.i.later sq.h
  clear s0 s1 s2 s3 sb sc hne hEQ i0 i1 i2 i3 i4 ra rb rc fa fb fc rbv rcv cA'
  have ra := hgQ.reg hl a ha0 ha1
  have fa := hgQ.fz (4 + a.toNat)
  generalize sq.w = V at *
  have hg2 := hgQ
  have hz1 := hzQ
  have hb1 : Hid (Below w.heap.size w V) := hEB.out
  clear ra fa j0 j1 j2 j3 j4 hgQ hzQ
  go_wp2_with (first
    | (refine wpList_load_row rfl 35 _ rfl w.heap.size rfl _ _ _ _ hg2 Tryd.underlying35 rfl (infoG hl) ?_)
    | (go_at_call 54; (with_reducible refine (cE _).mono ?_); rintro e W2 ⟨rfl, hb3⟩; (have hz2 := hz1.later hb3); (have hb2 : Hid (Below w.heap.size w W2) := bthen hb1.out hb3))
    | (refine wpList_store_row rfl 35 _ _ rfl (w.heap.size + 2) (Gr.cells (g.end 4 3)).toArray rfl rfl _ _ hz2 (infoG hX) (sizeGG rfl hX) (oneG _) ?_))
  exact bodyPost_ret (results_g Tryd.results35 _ _ (w.heap.size + 2) (g.end 4 3) hX rfl (hz2.set _)) rfl ⟨rfl, below_setRowG hb2.out (by omega) _⟩
end Go.Proofs.YtofeohhnfnnifaaDoor.pg
/- A region that draws its order, in the body of a loop over an iterator: what is shown of it outside holds there. -/
namespace Go.Proofs.YtofeohhnfnnifaaDoor.pg
open Go.ChangeShapes Go.WideShapes Go.ChangeAt Go.RowKit
set_option linter.unusedVariables false
set_option linter.unusedSimpArgs false
section
variable {P : Program} {ops : Array Oper} {Q : Exit → Act → World → Prop} {l n : Nat}
/-- No operation that defers a call. -/
def noDefer (ops : Array Oper) : Bool := ops.all fun o => match o.op with
  | .defer _ => false
  | _ => true
theorem noDefer_at {i : Nat} {o : Oper} (h : noDefer ops = true) (ho : ops[i]? = some o) (c : Call) : o.op ≠ .defer c := by
  intro e
  unfold noDefer at h
  rw [Array.all_eq_true] at h
  obtain ⟨hi, hx⟩ := Array.getElem?_eq_some_iff.mp ho
  have := h i hi
  rw [hx, e] at this
  simp at this
theorem wide_room (k : Nat) : (Fence.wide.inRound l).room k := fun d h => by simp [Fence.wide, Fence.inRound] at h
theorem wide_depth : (Fence.wide.inRound l).depth.isSome = true → 1 ≤ n := fun h => by simp [Fence.wide, Fence.inRound] at h
theorem op_round {o : Oper} {a : Act} {w : World} {K : Act → World → Prop} (hd : ∀ c, o.op ≠ .defer c) (h : o.wp P a w K Q) : o.wpIn (Fence.wide.inRound l) n P a w K Q := by
  unfold Oper.wp at h
  unfold Oper.wpIn
  refine ⟨fun f _ => trivial, ?_⟩
  rw [Fence.inRound_round, Oper.semAt_some l _ _ hd]
  generalize (execOp a.eval o).run P w = r at *
  cases r with
  | ok x w' =>
    cases x <;> simp only [Oper.upon, Oper.uponIn] at h ⊢ <;> first
      | exact h
      | exact ⟨wide_depth, CallsIn.inRound l (callsIn_wide.2 h)⟩
      | exact ⟨wide_depth, fun c cs _ => let ⟨v, w', r, s⟩ := h c cs; ⟨v, w', r, stepsIn_wide.2 s⟩⟩
  | halt x w' => cases x <;> simp only [Oper.upon, Oper.uponIn] at h ⊢ <;> exact h
theorem any_round {md : Region.Mode} (hd : noDefer ops = true) (hno : ¬ LetsOut Q) : ∀ (fuel : Nat) (listed : Array Bool) (a : Act) (w : World), wpAny P md ops Q fuel listed a w → wpAnyIn (Fence.wide.inRound l) n P md ops Q fuel listed a w
  | 0, _, _, _, h => h
  | fuel + 1, listed, a, w, h => ⟨h.1, fun i hi => by
    have h2 := h.2 i hi
    unfold wpOp at h2
    unfold wpOpIn
    cases ho : ops[i]? with
    | none =>
      simp only [ho] at h2
      exact any_round hd hno fuel _ a w h2
    | some o =>
      simp only [ho] at h2
      by_cases hw : Region.wanted o (yielded ops a.tmps) = true
      · simp only [hw, if_true] at h2 ⊢
        rcases h2 with h2 | h2
        · exact op_round (noDefer_at hd ho) (Oper.wp_mono (fun a' w' h' => any_round hd hno fuel _ a' w' h') h2)
        · exact (hno h2.2).elim
      · simp only [hw] at h2 ⊢
        exact ⟨fun f _ => trivial, any_round hd hno fuel _ _ w h2⟩⟩
theorem wpR_any {id : Nat} {a : Act} {w : World} (hm : P.follows .mixedOrders = true) (hd : noDefer ops = true) (hno : ¬ LetsOut Q)
    (h : wpAny P .any ops Q ops.size (Array.replicate ops.size false) a { w with drawn := w.drawn + 1 }) : (Code.region id ops true).wpIn (Fence.wide.inRound l) n P Q a w :=
  wpIn_region_any hm (any_round hd hno _ _ _ _ h)
/-- Walked once in the order of its text, in every world of a class. -/
theorem wpR_cls (S : World → Prop) {id : Nat} {a : Act} {w : World} {L : List Oper} (hm : P.follows .mixedOrders = true) (hB : Region.lexB .any L.toArray = true) (hd : noDefer L.toArray = true) (hno : ¬ LetsOut Q) (hS : S w.drew)
    (h : wpQuiet P L.toArray (fun w' => ∃ s : Cls S, w' = s.w) (fun a' => ∀ w', (∃ s : Cls S, w' = s.w) → Q .normal a' w') L a) : (Code.region id L.toArray true).wpIn (Fence.wide.inRound l) n P Q a w := by
  simp only [Region.lexB, Bool.and_eq_true] at hB
  refine wpR_any hm hd hno (wpAny_of_quiet (C := fun w' => ∃ s : Cls S, w' = s.w) (Q := fun a' => ∀ w', (∃ s : Cls S, w' = s.w) → Q .normal a' w') (fun _ w' hw' h => h w' hw') _ _ _ _ ⟨⟨_, hS⟩, rfl⟩ ?_)
  have := wpAnyQ_lex (C := fun w' => ∃ s : Cls S, w' = s.w) (md := .any) hB.1 L 0 (Array.replicate L.toArray.size false) a (by simp) (by simpa using hB.2) h
  simpa using this
/-- Walked by hand, a condition on the world held. -/
theorem wpR_held (S : World → Prop) {id : Nat} {a : Act} {w : World} (hm : P.follows .mixedOrders = true) (hd : noDefer ops = true) (hno : ¬ LetsOut Q)
    (h : wpAnyH P .any ops Q S ops.size (Array.replicate ops.size false) a w.drew) : (Code.region id ops true).wpIn (Fence.wide.inRound l) n P Q a w :=
  wpR_any hm hd hno (wpAny_of_held _ _ _ _ h)
end
end Go.Proofs.YtofeohhnfnnifaaDoor.pg
