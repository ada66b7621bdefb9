/- How package state runs one local instruction. -/
import Derived.Test.YtjcmhaaohdmjpaaDoorM8
import Derived.Test.YtjcmhaaohdmjpaaDoorM11
import Derived.Test.YtjcmhaaohdmjpaaDoorM17
import Derived.BigRegion
namespace Go.Proofs.YtjcmhaaohdmjpaaDoor.pg
open Go.ChangeShapes Go.WideShapes Go.ChangeAt Go.RowKit
set_option linter.unusedVariables false
set_option linter.unusedSimpArgs false
set_option maxRecDepth 100000
theorem two_boxes (w : World) (a b : Obj) : ((w.alloc a).alloc b).heap[w.heap.size]? = some a ∧ ((w.alloc a).alloc b).heap[w.heap.size + 1]? = some b := by
  refine ⟨((boxed (w.alloc a) b).block _ (by rw [World.size_alloc]; omega)).trans (heap_alloc_new w a), ?_⟩
  have := heap_alloc_new (w.alloc a) b
  rwa [World.size_alloc] at this
theorem three_boxes (w : World) (a b c : Obj) : (((w.alloc a).alloc b).alloc c).heap[w.heap.size]? = some a ∧ (((w.alloc a).alloc b).alloc c).heap[w.heap.size + 1]? = some b ∧ (((w.alloc a).alloc b).alloc c).heap[w.heap.size + 2]? = some c := by
  obtain ⟨h1, h2⟩ := two_boxes w a b
  refine ⟨((boxed _ c).block _ (by simp only [World.size_alloc]; omega)).trans h1, ((boxed _ c).block _ (by simp only [World.size_alloc]; omega)).trans h2, ?_⟩
  have := heap_alloc_new ((w.alloc a).alloc b) c
  rwa [World.size_alloc, World.size_alloc] at this
theorem end_len (g : Gr) (st why : Int) : (g.end st why).rg.length = 8 := rfl
theorem ended_any (g : Gr) (st why : Int) (w : World) : Calls Tryd.prog 54 #[g.val, .int .i64 st, .int .i64 why] w fun e w' => e = .returned (g.end st why).val ∧ Below w.heap.size w w' := by
  have hb := boxed2 w (objG g) (objG zeroG)
  obtain ⟨h1, h2⟩ := two_boxes w (objG g) (objG zeroG)
  go_enter Tryd.func54, Tryd.ntmps54
  go_upto_region 1 with fail
  rw [show (Obj.cells #[.int .i64 0, .int .i64 0, .int .i64 0, .int .i64 0, .int .i64 0, .int .i64 0, .int .i64 0, .int .i64 0, .int .i64 0, .int .i64 0, .int .i64 0, .int .i64 0] 35) = objG zeroG from rfl]
  generalize (w.alloc (objG g)).alloc (objG zeroG) = W at *
  have h1' : InG W w.heap.size g := h1
  have h2' : InG W (w.heap.size + 1) zeroG := h2
  have x1 := h1'.c1
  have x2 := h1'.c2
  clear h1 h2 h1'
  have hbH : Hid (Below w.heap.size w W) := hb
  clear hb
  go_wp2_with (refine wpList_store_row rfl 35 _ _ rfl (w.heap.size + 1) (g.end st why).cells.toArray rfl rfl _ _ h2' (infoG (end_len g st why)) rfl (oneG (g.end st why)) ?_)
  exact bodyPost_ret (results_g Tryd.results54 _ _ (w.heap.size + 1) (g.end st why) rfl rfl (h2'.set _)) rfl ⟨rfl, below_setRowG hbH.out (by omega) _⟩
end Go.Proofs.YtjcmhaaohdmjpaaDoor.pg
/- Package state's local, operation by operation. -/
namespace Go.Proofs.YtjcmhaaohdmjpaaDoor.pg
open Go.ChangeShapes Go.WideShapes Go.ChangeAt Go.RowKit
set_option linter.unusedVariables false
set_option linter.unusedSimpArgs false
set_option maxRecDepth 100000
structure LE (w W : World) (g : Gr) (i : Ins) : Prop where
  b : Below w.heap.size w W
  g : InG W w.heap.size g
  i : BoxI W (w.heap.size + 1) i
  z : InG W (w.heap.size + 2) zeroG
theorem le_new (w : World) (g : Gr) (i : Ins) : LE w (((w.alloc (objG g)).alloc (objI i)).alloc (objG zeroG)) g i := by
  obtain ⟨h1, h2, h3⟩ := three_boxes w (objG g) (objI i) (objG zeroG)
  exact ⟨boxed3 _ _ _ _, h1, ⟨cell_ofG h2 rfl, cell_ofG h2 rfl, cell_ofG h2 rfl, cell_ofG h2 rfl, cell_ofG h2 rfl⟩, h3⟩
theorem BoxI.set {w : World} {B B' k : Nat} {i : Ins} {v : Value} (h : BoxI w B i) (hne : B ≠ B') : BoxI (w.setCell ⟨B', k, none⟩ v) B i := by
  have key : ∀ q, (w.setCell ⟨B', k, none⟩ v).cell? ⟨B, q, none⟩ = w.cell? ⟨B, q, none⟩ := fun q => by simp only [World.cell?, Below.heap_setCell w ⟨B', k, none⟩ v B hne]
  exact ⟨(key 0).trans h.1, (key 1).trans h.2.1, (key 2).trans h.2.2.1, (key 3).trans h.2.2.2.1, (key 4).trans h.2.2.2.2⟩
theorem pc1 {x : Int} (h0 : 0 ≤ x) (h1 : x < 64) : wrap64 (x + 1) = x + 1 := by unfold wrap64; omega
/-- What a call of local leaves. -/
abbrev LocC (g : Gr) (i : Ins) (x : Gr) (w : World) : Prop := Calls Tryd.prog 35 #[g.val, i.val] w fun e w' => e = .returned x.val ∧ Below w.heap.size w w'
set_option maxHeartbeats 1000000 in
theorem local_const (g : Gr) (a b c n : Int) (hl : g.rg.length = 8) (p0 : 0 ≤ g.pc) (p1 : g.pc < 64) (h0 : 0 ≤ a) (h1 : a < 8) (w : World) : LocC g ⟨40, a, b, c, n⟩ (g.set a n).adv w := by
  have hE := le_new w g ⟨40, a, b, c, n⟩
  have xa := ix8 w.heap.size a h0 h1
  have hX : ((g.set a n).adv).rg.length = 8 := by simp [Gr.adv, Gr.set, hl]
  go_enter Tryd.func35, Tryd.ntmps35
  go_upto_region 1 with fail
  rw [show (Obj.cells #[.int .i64 0, .int .i64 0, .int .i64 0, .int .i64 0, .int .i64 0, .int .i64 0, .int .i64 0, .int .i64 0, .int .i64 0, .int .i64 0, .int .i64 0, .int .i64 0] 35) = objG zeroG from rfl]
  generalize ((w.alloc (objG g)).alloc (objI ⟨40, a, b, c, n⟩)).alloc (objG zeroG) = W at *
  have hEH : Hid (LE w W g ⟨40, a, b, c, n⟩) := hE
  obtain ⟨i0, i1, i2, i3, i4⟩ := hE.i
  have ra := hE.g.reg hl a h0 h1
  have rf := hE.g.fz (4 + a.toNat)
  clear hE
  go_wp2_with (first
    | (refine wpList_puti rfl 2 _ _ rfl ⟨w.heap.size, 4 + a.toNat, none⟩ rfl n rfl (by kernel_rfl) _ ra rf ?_; intro W1 hW1; (have hg1 : InG W1 w.heap.size (g.set a n) := by rw [hW1]; exact hEH.out.g.setR a n); (have hz1 : InG W1 (w.heap.size + 2) zeroG := by rw [hW1]; exact (Below.heap_setCell _ _ _ _ (by simp)).trans hEH.out.z); (have hb1 : Hid (Below w.heap.size w W1) := by rw [hW1]; exact hEH.out.b.setCell (p := ⟨w.heap.size, 4 + a.toNat, none⟩) (Nat.le_refl _) _); (have x2 := hg1.c2); (have f2 := hg1.fz 2); (have hg1H : Hid (InG W1 w.heap.size (g.set a n)) := hg1); (have hz1H : Hid (InG W1 (w.heap.size + 2) zeroG) := hz1); clear hW1 hg1 hz1 ra rf i0 i1 i2 i3 i4)
    | (refine wpList_puti rfl 3 _ _ rfl ⟨w.heap.size, 2, none⟩ rfl (g.pc + 1) (by rw [← pc1 p0 p1]; rfl) (by kernel_rfl) _ x2 f2 ?_; intro W2 hW2; (have hg2 : InG W2 w.heap.size (g.set a n).adv := by rw [hW2]; exact hg1H.out.setP (g.pc + 1)); (have hz2 : InG W2 (w.heap.size + 2) zeroG := by rw [hW2]; exact (Below.heap_setCell _ _ _ _ (by simp)).trans hz1H.out); (have hb2 : Hid (Below w.heap.size w W2) := by rw [hW2]; exact hb1.out.setCell (p := ⟨w.heap.size, 2, none⟩) (Nat.le_refl _) _); clear hW2 x2 f2)
    | (refine wpList_load_row rfl 35 _ rfl w.heap.size rfl _ _ _ _ hg2 Tryd.underlying35 rfl (infoG hX) ?_)
    | (refine wpList_store_row rfl 35 _ _ rfl (w.heap.size + 2) ((g.set a n).adv).cells.toArray rfl rfl _ _ hz2 (infoG hX) (sizeGG rfl hX) (oneG _) ?_))
  exact bodyPost_ret (results_g Tryd.results35 _ _ (w.heap.size + 2) ((g.set a n).adv) hX rfl (hz2.set _)) rfl ⟨rfl, below_setRowG hb2.out (by omega) _⟩
end Go.Proofs.YtjcmhaaohdmjpaaDoor.pg
/- Package state's local, operation by operation. -/
namespace Go.Proofs.YtjcmhaaohdmjpaaDoor.pg
open Go.ChangeShapes Go.WideShapes Go.ChangeAt Go.RowKit
set_option linter.unusedVariables false
set_option linter.unusedSimpArgs false
set_option maxRecDepth 100000
set_option maxHeartbeats 1000000 in
theorem local_move (g : Gr) (a b c n v : Int) (hl : g.rg.length = 8) (p0 : 0 ≤ g.pc) (p1 : g.pc < 64) (ha0 : 0 ≤ a) (ha1 : a < 8) (hb0 : 0 ≤ b) (hb1' : b < 8) (hv : Hid (g.get b = v)) (w : World) : LocC g ⟨41, a, b, c, n⟩ ((g.set a v).adv) w := by
  have hb1 := hb1'
  have hX : ((g.set a v).adv).rg.length = 8 := by simp [Gr.adv, Gr.set, Gr.end, zero8, hl]
  have hE := le_new w g ⟨41, a, b, c, n⟩
  have xa := ix8 w.heap.size a ha0 ha1
  have xb := ix8 w.heap.size b hb0 hb1
  go_enter Tryd.func35, Tryd.ntmps35
  go_upto_region 1 with fail
  rw [show (Obj.cells #[.int .i64 0, .int .i64 0, .int .i64 0, .int .i64 0, .int .i64 0, .int .i64 0, .int .i64 0, .int .i64 0, .int .i64 0, .int .i64 0, .int .i64 0, .int .i64 0] 35) = objG zeroG from rfl]
  generalize ((w.alloc (objG g)).alloc (objI ⟨41, a, b, c, n⟩)).alloc (objG zeroG) = W at *
  have hEH : Hid (LE w W g ⟨41, a, b, c, n⟩) := hE
  obtain ⟨i0, i1, i2, i3, i4⟩ := hE.i
  have ra := hE.g.reg hl a ha0 ha1
  have fa := hE.g.fz (4 + a.toNat)
  have rb := hE.g.reg hl b hb0 hb1
  have fb := hE.g.fz (4 + b.toNat)
  clear hE hb1
  rw [hv.out] at rb
  go_wp2_with fail
  go_region
  obtain ⟨W1, hW1⟩ : ∃ W1, W1 = (W.setCell ⟨w.heap.size, 4 + a.toNat, none⟩ (.int .i64 v)).drew := ⟨_, rfl⟩
  have e1 : W.drew.setCell ⟨w.heap.size, 4 + a.toNat, none⟩ (.int .i64 v) = W1 := by rw [hW1]; rfl
  have hg1 : InG W1 w.heap.size (g.set a v) := by rw [hW1]; exact hEH.out.g.setR a v
  have hz1 : InG W1 (w.heap.size + 2) zeroG := by rw [hW1]; exact (Below.heap_setCell _ _ _ _ (by simp)).trans hEH.out.z
  have hb1 : Hid (Below w.heap.size w W1) := by rw [hW1]; exact (hEH.out.b.setCell (p := ⟨w.heap.size, 4 + a.toNat, none⟩) (Nat.le_refl _) _).drew
  have x2 := hg1.c2
  have f2 := hg1.fz 2
  have hg1H : Hid (InG W1 w.heap.size (g.set a v)) := hg1
  have hz1H : Hid (InG W1 (w.heap.size + 2) zeroG) := hz1
  first | rw [e1] | rw [← hW1]
  clear hW1 e1 hg1 hz1 ra fa rb fb i0 i1 i2 i3 i4
  go_wp2_with (first
    | (refine wpList_puti rfl 3 _ _ rfl ⟨w.heap.size, 2, none⟩ rfl (g.pc + 1) (by rw [← pc1 p0 p1]; rfl) (by kernel_rfl) _ x2 f2 ?_; intro W2 hW2; (have hg2 : InG W2 w.heap.size (g.set a v).adv := by rw [hW2]; exact hg1H.out.setP (g.pc + 1)); (have hz2 : InG W2 (w.heap.size + 2) zeroG := by rw [hW2]; exact (Below.heap_setCell _ _ _ _ (by simp)).trans hz1H.out); (have hb2 : Hid (Below w.heap.size w W2) := by rw [hW2]; exact hb1.out.setCell (p := ⟨w.heap.size, 2, none⟩) (Nat.le_refl _) _); clear hW2 x2 f2)
    | (refine wpList_load_row rfl 35 _ rfl w.heap.size rfl _ _ _ _ hg2 Tryd.underlying35 rfl (infoG hX) ?_)
    | (refine wpList_store_row rfl 35 _ _ rfl (w.heap.size + 2) (Gr.cells ((g.set a v).adv)).toArray rfl rfl _ _ hz2 (infoG hX) (sizeGG rfl hX) (oneG _) ?_))
  exact bodyPost_ret (results_g Tryd.results35 _ _ (w.heap.size + 2) ((g.set a v).adv) hX rfl (hz2.set _)) rfl ⟨rfl, below_setRowG hb2.out (by omega) _⟩
set_option maxHeartbeats 1000000 in
theorem local_jump (g : Gr) (a b c n : Int) (hl : g.rg.length = 8) (p0 : 0 ≤ g.pc) (p1 : g.pc < 64) (w : World) : LocC g ⟨42, a, b, c, n⟩ { g with pc := a } w := by
  have hX : ({ g with pc := a }).rg.length = 8 := by simp [Gr.adv, Gr.set, Gr.end, zero8, hl]
  have hE := le_new w g ⟨42, a, b, c, n⟩
  go_enter Tryd.func35, Tryd.ntmps35
  go_upto_region 1 with fail
  rw [show (Obj.cells #[.int .i64 0, .int .i64 0, .int .i64 0, .int .i64 0, .int .i64 0, .int .i64 0, .int .i64 0, .int .i64 0, .int .i64 0, .int .i64 0, .int .i64 0, .int .i64 0] 35) = objG zeroG from rfl]
  generalize ((w.alloc (objG g)).alloc (objI ⟨42, a, b, c, n⟩)).alloc (objG zeroG) = W at *
  have hEH : Hid (LE w W g ⟨42, a, b, c, n⟩) := hE
  obtain ⟨i0, i1, i2, i3, i4⟩ := hE.i
  have hg1H : Hid (InG W w.heap.size g) := hEH.out.g
  have hz1H : Hid (InG W (w.heap.size + 2) zeroG) := hEH.out.z
  have hb1 : Hid (Below w.heap.size w W) := hEH.out.b
  have x2 := hEH.out.g.c2
  have f2 := hEH.out.g.fz 2
  clear hE
  go_wp2_with (first
    | (refine wpList_puti rfl 3 _ _ rfl ⟨w.heap.size, 2, none⟩ rfl (a) rfl (by kernel_rfl) _ x2 f2 ?_; intro W2 hW2; (have hg2 : InG W2 w.heap.size { g with pc := a } := by rw [hW2]; exact hg1H.out.setP (a)); (have hz2 : InG W2 (w.heap.size + 2) zeroG := by rw [hW2]; exact (Below.heap_setCell _ _ _ _ (by simp)).trans hz1H.out); (have hb2 : Hid (Below w.heap.size w W2) := by rw [hW2]; exact hb1.out.setCell (p := ⟨w.heap.size, 2, none⟩) (Nat.le_refl _) _); clear hW2 x2 f2)
    | (refine wpList_load_row rfl 35 _ rfl w.heap.size rfl _ _ _ _ hg2 Tryd.underlying35 rfl (infoG hX) ?_)
    | (refine wpList_store_row rfl 35 _ _ rfl (w.heap.size + 2) (Gr.cells { g with pc := a }).toArray rfl rfl _ _ hz2 (infoG hX) (sizeGG rfl hX) (oneG _) ?_))
  exact bodyPost_ret (results_g Tryd.results35 _ _ (w.heap.size + 2) { g with pc := a } hX rfl (hz2.set _)) rfl ⟨rfl, below_setRowG hb2.out (by omega) _⟩
set_option maxHeartbeats 1000000 in
theorem local_if1 (g : Gr) (a b c n : Int) (hl : g.rg.length = 8) (p0 : 0 ≤ g.pc) (p1 : g.pc < 64) (ha0 : 0 ≤ a) (ha1 : a < 8) (hz : g.get a ≠ 0) (w : World) : LocC g ⟨43, a, b, c, n⟩ { g with pc := b } w := by
  have hX : ({ g with pc := b }).rg.length = 8 := by simp [Gr.adv, Gr.set, Gr.end, zero8, hl]
  have hE := le_new w g ⟨43, a, b, c, n⟩
  have xa := ix8 w.heap.size a ha0 ha1
  go_enter Tryd.func35, Tryd.ntmps35
  go_upto_region 1 with fail
  rw [show (Obj.cells #[.int .i64 0, .int .i64 0, .int .i64 0, .int .i64 0, .int .i64 0, .int .i64 0, .int .i64 0, .int .i64 0, .int .i64 0, .int .i64 0, .int .i64 0, .int .i64 0] 35) = objG zeroG from rfl]
  generalize ((w.alloc (objG g)).alloc (objI ⟨43, a, b, c, n⟩)).alloc (objG zeroG) = W at *
  have hEH : Hid (LE w W g ⟨43, a, b, c, n⟩) := hE
  obtain ⟨i0, i1, i2, i3, i4⟩ := hE.i
  have ra := hE.g.reg hl a ha0 ha1
  have fa := hE.g.fz (4 + a.toNat)
  have hg1H : Hid (InG W w.heap.size g) := hEH.out.g
  have hz1H : Hid (InG W (w.heap.size + 2) zeroG) := hEH.out.z
  have hb1 : Hid (Below w.heap.size w W) := hEH.out.b
  have x2 := hEH.out.g.c2
  have f2 := hEH.out.g.fz 2
  clear hE
  generalize g.get a = v at *
  have hv : (v != 0) = true := by simpa using hz
  clear hz
  go_wp2_with (first
    | (refine wpList_puti rfl 3 _ _ rfl ⟨w.heap.size, 2, none⟩ rfl (b) rfl (by kernel_rfl) _ x2 f2 ?_; intro W2 hW2; (have hg2 : InG W2 w.heap.size { g with pc := b } := by rw [hW2]; exact hg1H.out.setP (b)); (have hz2 : InG W2 (w.heap.size + 2) zeroG := by rw [hW2]; exact (Below.heap_setCell _ _ _ _ (by simp)).trans hz1H.out); (have hb2 : Hid (Below w.heap.size w W2) := by rw [hW2]; exact hb1.out.setCell (p := ⟨w.heap.size, 2, none⟩) (Nat.le_refl _) _); clear hW2 x2 f2)
    | (refine wpList_load_row rfl 35 _ rfl w.heap.size rfl _ _ _ _ hg2 Tryd.underlying35 rfl (infoG hX) ?_)
    | (refine wpList_store_row rfl 35 _ _ rfl (w.heap.size + 2) (Gr.cells { g with pc := b }).toArray rfl rfl _ _ hz2 (infoG hX) (sizeGG rfl hX) (oneG _) ?_))
  exact bodyPost_ret (results_g Tryd.results35 _ _ (w.heap.size + 2) { g with pc := b } hX rfl (hz2.set _)) rfl ⟨rfl, below_setRowG hb2.out (by omega) _⟩
set_option maxHeartbeats 1000000 in
theorem local_if0 (g : Gr) (a b c n : Int) (hl : g.rg.length = 8) (p0 : 0 ≤ g.pc) (p1 : g.pc < 64) (ha0 : 0 ≤ a) (ha1 : a < 8) (hz : g.get a = 0) (w : World) : LocC g ⟨43, a, b, c, n⟩ g.adv w := by
  have hX : (g.adv).rg.length = 8 := by simp [Gr.adv, Gr.set, Gr.end, zero8, hl]
  have hE := le_new w g ⟨43, a, b, c, n⟩
  have xa := ix8 w.heap.size a ha0 ha1
  go_enter Tryd.func35, Tryd.ntmps35
  go_upto_region 1 with fail
  rw [show (Obj.cells #[.int .i64 0, .int .i64 0, .int .i64 0, .int .i64 0, .int .i64 0, .int .i64 0, .int .i64 0, .int .i64 0, .int .i64 0, .int .i64 0, .int .i64 0, .int .i64 0] 35) = objG zeroG from rfl]
  generalize ((w.alloc (objG g)).alloc (objI ⟨43, a, b, c, n⟩)).alloc (objG zeroG) = W at *
  have hEH : Hid (LE w W g ⟨43, a, b, c, n⟩) := hE
  obtain ⟨i0, i1, i2, i3, i4⟩ := hE.i
  have ra := hE.g.reg hl a ha0 ha1
  have fa := hE.g.fz (4 + a.toNat)
  have hg1H : Hid (InG W w.heap.size g) := hEH.out.g
  have hz1H : Hid (InG W (w.heap.size + 2) zeroG) := hEH.out.z
  have hb1 : Hid (Below w.heap.size w W) := hEH.out.b
  have x2 := hEH.out.g.c2
  have f2 := hEH.out.g.fz 2
  clear hE
  rw [hz] at ra
  clear hz
  go_wp2_with (first
    | (refine wpList_puti rfl 3 _ _ rfl ⟨w.heap.size, 2, none⟩ rfl (g.pc + 1) (by rw [← pc1 p0 p1]; rfl) (by kernel_rfl) _ x2 f2 ?_; intro W2 hW2; (have hg2 : InG W2 w.heap.size g.adv := by rw [hW2]; exact hg1H.out.setP (g.pc + 1)); (have hz2 : InG W2 (w.heap.size + 2) zeroG := by rw [hW2]; exact (Below.heap_setCell _ _ _ _ (by simp)).trans hz1H.out); (have hb2 : Hid (Below w.heap.size w W2) := by rw [hW2]; exact hb1.out.setCell (p := ⟨w.heap.size, 2, none⟩) (Nat.le_refl _) _); clear hW2 x2 f2)
    | (refine wpList_load_row rfl 35 _ rfl w.heap.size rfl _ _ _ _ hg2 Tryd.underlying35 rfl (infoG hX) ?_)
    | (refine wpList_store_row rfl 35 _ _ rfl (w.heap.size + 2) (Gr.cells (g.adv)).toArray rfl rfl _ _ hz2 (infoG hX) (sizeGG rfl hX) (oneG _) ?_))
  exact bodyPost_ret (results_g Tryd.results35 _ _ (w.heap.size + 2) g.adv hX rfl (hz2.set _)) rfl ⟨rfl, below_setRowG hb2.out (by omega) _⟩
set_option maxHeartbeats 1000000 in
theorem local_assert1 (g : Gr) (a b c n : Int) (hl : g.rg.length = 8) (p0 : 0 ≤ g.pc) (p1 : g.pc < 64) (ha0 : 0 ≤ a) (ha1 : a < 8) (hz : g.get a ≠ 0) (w : World) : LocC g ⟨44, a, b, c, n⟩ g.adv w := by
  have hX : (g.adv).rg.length = 8 := by simp [Gr.adv, Gr.set, Gr.end, zero8, hl]
  have hE := le_new w g ⟨44, a, b, c, n⟩
  have xa := ix8 w.heap.size a ha0 ha1
  go_enter Tryd.func35, Tryd.ntmps35
  go_upto_region 1 with fail
  rw [show (Obj.cells #[.int .i64 0, .int .i64 0, .int .i64 0, .int .i64 0, .int .i64 0, .int .i64 0, .int .i64 0, .int .i64 0, .int .i64 0, .int .i64 0, .int .i64 0, .int .i64 0] 35) = objG zeroG from rfl]
  generalize ((w.alloc (objG g)).alloc (objI ⟨44, a, b, c, n⟩)).alloc (objG zeroG) = W at *
  have hEH : Hid (LE w W g ⟨44, a, b, c, n⟩) := hE
  obtain ⟨i0, i1, i2, i3, i4⟩ := hE.i
  have ra := hE.g.reg hl a ha0 ha1
  have fa := hE.g.fz (4 + a.toNat)
  have hg1H : Hid (InG W w.heap.size g) := hEH.out.g
  have hz1H : Hid (InG W (w.heap.size + 2) zeroG) := hEH.out.z
  have hb1 : Hid (Below w.heap.size w W) := hEH.out.b
  have x2 := hEH.out.g.c2
  have f2 := hEH.out.g.fz 2
  clear hE
  generalize g.get a = v at *
  have hv : (v == 0) = false := by simpa using hz
  clear hz
  go_wp2_with (first
    | (refine wpList_puti rfl 3 _ _ rfl ⟨w.heap.size, 2, none⟩ rfl (g.pc + 1) (by rw [← pc1 p0 p1]; rfl) (by kernel_rfl) _ x2 f2 ?_; intro W2 hW2; (have hg2 : InG W2 w.heap.size g.adv := by rw [hW2]; exact hg1H.out.setP (g.pc + 1)); (have hz2 : InG W2 (w.heap.size + 2) zeroG := by rw [hW2]; exact (Below.heap_setCell _ _ _ _ (by simp)).trans hz1H.out); (have hb2 : Hid (Below w.heap.size w W2) := by rw [hW2]; exact hb1.out.setCell (p := ⟨w.heap.size, 2, none⟩) (Nat.le_refl _) _); clear hW2 x2 f2)
    | (refine wpList_load_row rfl 35 _ rfl w.heap.size rfl _ _ _ _ hg2 Tryd.underlying35 rfl (infoG hX) ?_)
    | (refine wpList_store_row rfl 35 _ _ rfl (w.heap.size + 2) (Gr.cells (g.adv)).toArray rfl rfl _ _ hz2 (infoG hX) (sizeGG rfl hX) (oneG _) ?_))
  exact bodyPost_ret (results_g Tryd.results35 _ _ (w.heap.size + 2) g.adv hX rfl (hz2.set _)) rfl ⟨rfl, below_setRowG hb2.out (by omega) _⟩
set_option maxHeartbeats 1000000 in
theorem local_assert0 (g : Gr) (a b c n : Int) (hl : g.rg.length = 8) (p0 : 0 ≤ g.pc) (p1 : g.pc < 64) (ha0 : 0 ≤ a) (ha1 : a < 8) (hz : g.get a = 0) (w : World) : LocC g ⟨44, a, b, c, n⟩ (g.end 4 1) w := by
  have hX : (g.end 4 1).rg.length = 8 := by simp [Gr.adv, Gr.set, Gr.end, zero8, hl]
  have cE := ended_any g 4 1
  have hE := le_new w g ⟨44, a, b, c, n⟩
  have xa := ix8 w.heap.size a ha0 ha1
  go_enter Tryd.func35, Tryd.ntmps35
  go_upto_region 1 with fail
  rw [show (Obj.cells #[.int .i64 0, .int .i64 0, .int .i64 0, .int .i64 0, .int .i64 0, .int .i64 0, .int .i64 0, .int .i64 0, .int .i64 0, .int .i64 0, .int .i64 0, .int .i64 0] 35) = objG zeroG from rfl]
  generalize ((w.alloc (objG g)).alloc (objI ⟨44, a, b, c, n⟩)).alloc (objG zeroG) = W at *
  have hEH : Hid (LE w W g ⟨44, a, b, c, n⟩) := hE
  obtain ⟨i0, i1, i2, i3, i4⟩ := hE.i
  have ra := hE.g.reg hl a ha0 ha1
  have fa := hE.g.fz (4 + a.toNat)
  have hg2 : InG W w.heap.size g := hEH.out.g
  have hz1 : InG W (w.heap.size + 2) zeroG := hEH.out.z
  have hb1 : Hid (Below w.heap.size w W) := hEH.out.b
  clear hE
  rw [hz] at ra
  clear hz
  go_wp2_with (first
    | (refine wpList_load_row rfl 35 _ rfl w.heap.size rfl _ _ _ _ hg2 Tryd.underlying35 rfl (infoG hl) ?_)
    | (go_at_call 54; (with_reducible refine (cE _).mono ?_); rintro e W2 ⟨rfl, hb3⟩; (have hz2 := hz1.later hb3); (have hb2 : Hid (Below w.heap.size w W2) := bthen hb1.out hb3))
    | (refine wpList_store_row rfl 35 _ _ rfl (w.heap.size + 2) (Gr.cells (g.end 4 1)).toArray rfl rfl _ _ hz2 (infoG hX) (sizeGG rfl hX) (oneG _) ?_))
  exact bodyPost_ret (results_g Tryd.results35 _ _ (w.heap.size + 2) (g.end 4 1) hX rfl (hz2.set _)) rfl ⟨rfl, below_setRowG hb2.out (by omega) _⟩
set_option maxHeartbeats 1000000 in
theorem local_end (g : Gr) (a b c n : Int) (hl : g.rg.length = 8) (p0 : 0 ≤ g.pc) (p1 : g.pc < 64) (w : World) : LocC g ⟨45, a, b, c, n⟩ (g.end 3 0) w := by
  have hX : (g.end 3 0).rg.length = 8 := by simp [Gr.adv, Gr.set, Gr.end, zero8, hl]
  have cE := ended_any g 3 0
  have hE := le_new w g ⟨45, a, b, c, n⟩
  go_enter Tryd.func35, Tryd.ntmps35
  go_upto_region 1 with fail
  rw [show (Obj.cells #[.int .i64 0, .int .i64 0, .int .i64 0, .int .i64 0, .int .i64 0, .int .i64 0, .int .i64 0, .int .i64 0, .int .i64 0, .int .i64 0, .int .i64 0, .int .i64 0] 35) = objG zeroG from rfl]
  generalize ((w.alloc (objG g)).alloc (objI ⟨45, a, b, c, n⟩)).alloc (objG zeroG) = W at *
  have hEH : Hid (LE w W g ⟨45, a, b, c, n⟩) := hE
  obtain ⟨i0, i1, i2, i3, i4⟩ := hE.i
  have hg2 : InG W w.heap.size g := hEH.out.g
  have hz1 : InG W (w.heap.size + 2) zeroG := hEH.out.z
  have hb1 : Hid (Below w.heap.size w W) := hEH.out.b
  clear hE
  go_wp2_with (first
    | (refine wpList_load_row rfl 35 _ rfl w.heap.size rfl _ _ _ _ hg2 Tryd.underlying35 rfl (infoG hl) ?_)
    | (go_at_call 54; (with_reducible refine (cE _).mono ?_); rintro e W2 ⟨rfl, hb3⟩; (have hz2 := hz1.later hb3); (have hb2 : Hid (Below w.heap.size w W2) := bthen hb1.out hb3))
    | (refine wpList_store_row rfl 35 _ _ rfl (w.heap.size + 2) (Gr.cells (g.end 3 0)).toArray rfl rfl _ _ hz2 (infoG hX) (sizeGG rfl hX) (oneG _) ?_))
  exact bodyPost_ret (results_g Tryd.results35 _ _ (w.heap.size + 2) (g.end 3 0) hX rfl (hz2.set _)) rfl ⟨rfl, below_setRowG hb2.out (by omega) _⟩
set_option maxHeartbeats 1000000 in
theorem local_word (g : Gr) (k a b c n x y : Int) (hl : g.rg.length = 8) (p0 : 0 ≤ g.pc) (p1 : g.pc < 64) (k1 : 1 ≤ k) (k2 : k ≤ 36) (ha0 : 0 ≤ a) (ha1 : a < 8) (hb0 : 0 ≤ b) (hb1' : b < 8) (hc0 : 0 ≤ c) (hc1 : c < 8) (cA : ∀ wx, Calls Tryd.prog 55 #[.int .i64 k, .int .i64 (g.get b), .int .i64 (g.get c)] wx fun e w' => e = .returned (.tuple #[.int .i64 x, .int .i64 y]) ∧ w' = wx) (y1 : (y == 20) = false) (y2 : (y == 21) = false) (w : World) : LocC g ⟨k, a, b, c, n⟩ ((g.set a x).adv) w := by
  have hb1 := hb1'
  have hX : ((g.set a x).adv).rg.length = 8 := by simp [Gr.adv, Gr.set, Gr.end, zero8, hl]
  have e40 : (k == 40) = false := by simp; omega
  have e41 : (k == 41) = false := by simp; omega
  have e42 : (k == 42) = false := by simp; omega
  have e43 : (k == 43) = false := by simp; omega
  have e44 : (k == 44) = false := by simp; omega
  have e45 : (k == 45) = false := by simp; omega
  have cA' : ∀ wx, Calls Tryd.prog 55 #[.int .i64 k, .int .i64 (g.get b), .int .i64 (g.get c)] wx fun e w' => e = .returned (.tuple #[.int .i64 x, .int .i64 y]) ∧ Below wx.heap.size wx w' := fun wx => (cA wx).mono fun e w' ⟨he, hw⟩ => ⟨he, by rw [hw]; exact Below.refl _ _⟩
  have hE := le_new w g ⟨k, a, b, c, n⟩
  have xa := ix8 w.heap.size a ha0 ha1
  have xb := ix8 w.heap.size b hb0 hb1
  have xc := ix8 w.heap.size c hc0 hc1
  go_enter Tryd.func35, Tryd.ntmps35
  go_upto_region 1 with fail
  rw [show (Obj.cells #[.int .i64 0, .int .i64 0, .int .i64 0, .int .i64 0, .int .i64 0, .int .i64 0, .int .i64 0, .int .i64 0, .int .i64 0, .int .i64 0, .int .i64 0, .int .i64 0] 35) = objG zeroG from rfl]
  generalize ((w.alloc (objG g)).alloc (objI ⟨k, a, b, c, n⟩)).alloc (objG zeroG) = W at *
  have hEH : Hid (LE w W g ⟨k, a, b, c, n⟩) := hE
  obtain ⟨i0, i1, i2, i3, i4⟩ := hE.i
  have ra := hE.g.reg hl a ha0 ha1
  have fa := hE.g.fz (4 + a.toNat)
  have rb := hE.g.reg hl b hb0 hb1
  have fb := hE.g.fz (4 + b.toNat)
  have rc := hE.g.reg hl c hc0 hc1
  have fc := hE.g.fz (4 + c.toNat)
  clear hE hb1 k1 k2 cA
  have rbv := rb
  have rcv := rc
  generalize g.get b = vb at *
  generalize g.get c = vc at *
  go_wp2_with fail
  have s0 := fun s => bey_cell i0 s
  have s1 := fun s => bey_cell i1 s
  have s2 := fun s => bey_cell i2 s
  have s3 := fun s => bey_cell i3 s
  have sb := fun s => bey_cell rb s
  have sc := fun s => bey_cell rc s
  have hne := bey_some W
  refine wp_region_cls (Bey W) (by kernel_rfl) (by kernel_rfl) (bey_drew W) ?_
  repeat (go_big_quiet_step ((go_at_call 55; exact calls_bey (cA' _))))
  refine wpQuiet_nil ?_
  intro _ hw'
  obtain ⟨sq, hw''⟩ := hw'
  subst hw''
  have hEQ : Hid (Below W.heap.size W sq.w) := sq.h
  have hEB : Hid (Below w.heap.size w sq.w) := bthen hEH.out.b sq.h
  have hgQ : InG sq.w w.heap.size g := hEH.out.g.later sq.h
  have hzQ : InG sq.w (w.heap.size + 2) zeroG := hEH.out.z.later sq.h
  obtain ⟨j0, j1, j2, j3, j4⟩ := hEH.out.i.later sq.h
  clear s0 s1 s2 s3 sb sc hne hEQ i0 i1 i2 i3 i4 ra rb rc fa fb fc rbv rcv cA'
  have ra := hgQ.reg hl a ha0 ha1
  have fa := hgQ.fz (4 + a.toNat)
  generalize sq.w = V at *
  have hgH : Hid (InG V w.heap.size g) := hgQ
  have hzH : Hid (InG V (w.heap.size + 2) zeroG) := hzQ
  clear hgQ hzQ
  go_wp2_with (first
    | (refine wpList_puti rfl 2 _ _ rfl ⟨w.heap.size, 4 + a.toNat, none⟩ rfl (x) rfl (by kernel_rfl) _ ra fa ?_; intro W1 hW1; (have hg1 : InG W1 w.heap.size (g.set a x) := by rw [hW1]; exact hgH.out.setR a (x)); (have hz1 : InG W1 (w.heap.size + 2) zeroG := by rw [hW1]; exact (Below.heap_setCell _ _ _ _ (by simp)).trans hzH.out); (have hb1 : Hid (Below w.heap.size w W1) := by rw [hW1]; exact hEB.out.setCell (p := ⟨w.heap.size, 4 + a.toNat, none⟩) (Nat.le_refl _) _); (have x2 := hg1.c2); (have f2 := hg1.fz 2); (have hg1H : Hid (InG W1 w.heap.size (g.set a x)) := hg1); (have hz1H : Hid (InG W1 (w.heap.size + 2) zeroG) := hz1); clear hW1 hg1 hz1 ra fa j0 j1 j2 j3 j4)
    | (refine wpList_puti rfl 3 _ _ rfl ⟨w.heap.size, 2, none⟩ rfl (g.pc + 1) (by rw [← pc1 p0 p1]; rfl) (by kernel_rfl) _ x2 f2 ?_; intro W2 hW2; (have hg2 : InG W2 w.heap.size (g.set a x).adv := by rw [hW2]; exact hg1H.out.setP (g.pc + 1)); (have hz2 : InG W2 (w.heap.size + 2) zeroG := by rw [hW2]; exact (Below.heap_setCell _ _ _ _ (by simp)).trans hz1H.out); (have hb2 : Hid (Below w.heap.size w W2) := by rw [hW2]; exact hb1.out.setCell (p := ⟨w.heap.size, 2, none⟩) (Nat.le_refl _) _); clear hW2 x2 f2)
    | (refine wpList_load_row rfl 35 _ rfl w.heap.size rfl _ _ _ _ hg2 Tryd.underlying35 rfl (infoG hX) ?_)
    | (refine wpList_store_row rfl 35 _ _ rfl (w.heap.size + 2) (Gr.cells ((g.set a x).adv)).toArray rfl rfl _ _ hz2 (infoG hX) (sizeGG rfl hX) (oneG _) ?_))
  exact bodyPost_ret (results_g Tryd.results35 _ _ (w.heap.size + 2) ((g.set a x).adv) hX rfl (hz2.set _)) rfl ⟨rfl, below_setRowG hb2.out (by omega) _⟩
set_option maxHeartbeats 1000000 in
theorem local_zero (g : Gr) (k a b c n x : Int) (hl : g.rg.length = 8) (p0 : 0 ≤ g.pc) (p1 : g.pc < 64) (k1 : 1 ≤ k) (k2 : k ≤ 36) (ha0 : 0 ≤ a) (ha1 : a < 8) (hb0 : 0 ≤ b) (hb1' : b < 8) (hc0 : 0 ≤ c) (hc1 : c < 8) (cA : ∀ wx, Calls Tryd.prog 55 #[.int .i64 k, .int .i64 (g.get b), .int .i64 (g.get c)] wx fun e w' => e = .returned (.tuple #[.int .i64 x, .int .i64 20]) ∧ w' = wx) (w : World) : LocC g ⟨k, a, b, c, n⟩ (g.end 4 2) w := by
  have hb1 := hb1'
  have hX : (g.end 4 2).rg.length = 8 := by simp [Gr.adv, Gr.set, Gr.end, zero8, hl]
  have cE := ended_any g 4 2
  have e40 : (k == 40) = false := by simp; omega
  have e41 : (k == 41) = false := by simp; omega
  have e42 : (k == 42) = false := by simp; omega
  have e43 : (k == 43) = false := by simp; omega
  have e44 : (k == 44) = false := by simp; omega
  have e45 : (k == 45) = false := by simp; omega
  have cA' : ∀ wx, Calls Tryd.prog 55 #[.int .i64 k, .int .i64 (g.get b), .int .i64 (g.get c)] wx fun e w' => e = .returned (.tuple #[.int .i64 x, .int .i64 20]) ∧ Below wx.heap.size wx w' := fun wx => (cA wx).mono fun e w' ⟨he, hw⟩ => ⟨he, by rw [hw]; exact Below.refl _ _⟩
  have hE := le_new w g ⟨k, a, b, c, n⟩
  have xa := ix8 w.heap.size a ha0 ha1
  have xb := ix8 w.heap.size b hb0 hb1
  have xc := ix8 w.heap.size c hc0 hc1
  go_enter Tryd.func35, Tryd.ntmps35
  go_upto_region 1 with fail
  rw [show (Obj.cells #[.int .i64 0, .int .i64 0, .int .i64 0, .int .i64 0, .int .i64 0, .int .i64 0, .int .i64 0, .int .i64 0, .int .i64 0, .int .i64 0, .int .i64 0, .int .i64 0] 35) = objG zeroG from rfl]
  generalize ((w.alloc (objG g)).alloc (objI ⟨k, a, b, c, n⟩)).alloc (objG zeroG) = W at *
  have hEH : Hid (LE w W g ⟨k, a, b, c, n⟩) := hE
  obtain ⟨i0, i1, i2, i3, i4⟩ := hE.i
  have ra := hE.g.reg hl a ha0 ha1
  have fa := hE.g.fz (4 + a.toNat)
  have rb := hE.g.reg hl b hb0 hb1
  have fb := hE.g.fz (4 + b.toNat)
  have rc := hE.g.reg hl c hc0 hc1
  have fc := hE.g.fz (4 + c.toNat)
  clear hE hb1 k1 k2 cA
  have rbv := rb
  have rcv := rc
  generalize g.get b = vb at *
  generalize g.get c = vc at *
  go_wp2_with fail
  have s0 := fun s => bey_cell i0 s
  have s1 := fun s => bey_cell i1 s
  have s2 := fun s => bey_cell i2 s
  have s3 := fun s => bey_cell i3 s
  have sb := fun s => bey_cell rb s
  have sc := fun s => bey_cell rc s
  have hne := bey_some W
  refine wp_region_cls (Bey W) (by kernel_rfl) (by kernel_rfl) (bey_drew W) ?_
  repeat (go_big_quiet_step ((go_at_call 55; exact calls_bey (cA' _))))
  refine wpQuiet_nil ?_
  intro _ hw'
  obtain ⟨sq, hw''⟩ := hw'
  subst hw''
  have hEQ : Hid (Below W.heap.size W sq.w) := sq.h
  have hEB : Hid (Below w.heap.size w sq.w) := bthen hEH.out.b sq.h
  have hgQ : InG sq.w w.heap.size g := hEH.out.g.later sq.h
  have hzQ : InG sq.w (w.heap.size + 2) zeroG := hEH.out.z.later sq.h
  obtain ⟨j0, j1, j2, j3, j4⟩ := hEH.out.i.later sq.h
  clear s0 s1 s2 s3 sb sc hne hEQ i0 i1 i2 i3 i4 ra rb rc fa fb fc rbv rcv cA'
  have ra := hgQ.reg hl a ha0 ha1
  have fa := hgQ.fz (4 + a.toNat)
  generalize sq.w = V at *
  have hg2 := hgQ
  have hz1 := hzQ
  have hb1 : Hid (Below w.heap.size w V) := hEB.out
  clear ra fa j0 j1 j2 j3 j4 hgQ hzQ
  go_wp2_with (first
    | (refine wpList_load_row rfl 35 _ rfl w.heap.size rfl _ _ _ _ hg2 Tryd.underlying35 rfl (infoG hl) ?_)
    | (go_at_call 54; (with_reducible refine (cE _).mono ?_); rintro e W2 ⟨rfl, hb3⟩; (have hz2 := hz1.later hb3); (have hb2 : Hid (Below w.heap.size w W2) := bthen hb1.out hb3))
    | (refine wpList_store_row rfl 35 _ _ rfl (w.heap.size + 2) (Gr.cells (g.end 4 2)).toArray rfl rfl _ _ hz2 (infoG hX) (sizeGG rfl hX) (oneG _) ?_))
  exact bodyPost_ret (results_g Tryd.results35 _ _ (w.heap.size + 2) (g.end 4 2) hX rfl (hz2.set _)) rfl ⟨rfl, below_setRowG hb2.out (by omega) _⟩
set_option maxHeartbeats 1000000 in
theorem local_shift (g : Gr) (k a b c n x : Int) (hl : g.rg.length = 8) (p0 : 0 ≤ g.pc) (p1 : g.pc < 64) (k1 : 1 ≤ k) (k2 : k ≤ 36) (ha0 : 0 ≤ a) (ha1 : a < 8) (hb0 : 0 ≤ b) (hb1' : b < 8) (hc0 : 0 ≤ c) (hc1 : c < 8) (cA : ∀ wx, Calls Tryd.prog 55 #[.int .i64 k, .int .i64 (g.get b), .int .i64 (g.get c)] wx fun e w' => e = .returned (.tuple #[.int .i64 x, .int .i64 21]) ∧ w' = wx) (w : World) : LocC g ⟨k, a, b, c, n⟩ (g.end 4 3) w := by
  have hb1 := hb1'
  have hX : (g.end 4 3).rg.length = 8 := by simp [Gr.adv, Gr.set, Gr.end, zero8, hl]
  have cE := ended_any g 4 3
  have e40 : (k == 40) = false := by simp; omega
  have e41 : (k == 41) = false := by simp; omega
  have e42 : (k == 42) = false := by simp; omega
  have e43 : (k == 43) = false := by simp; omega
  have e44 : (k == 44) = false := by simp; omega
  have e45 : (k == 45) = false := by simp; omega
  have cA' : ∀ wx, Calls Tryd.prog 55 #[.int .i64 k, .int .i64 (g.get b), .int .i64 (g.get c)] wx fun e w' => e = .returned (.tuple #[.int .i64 x, .int .i64 21]) ∧ Below wx.heap.size wx w' := fun wx => (cA wx).mono fun e w' ⟨he, hw⟩ => ⟨he, by rw [hw]; exact Below.refl _ _⟩
  have hE := le_new w g ⟨k, a, b, c, n⟩
  have xa := ix8 w.heap.size a ha0 ha1
  have xb := ix8 w.heap.size b hb0 hb1
  have xc := ix8 w.heap.size c hc0 hc1
  go_enter Tryd.func35, Tryd.ntmps35
  go_upto_region 1 with fail
  rw [show (Obj.cells #[.int .i64 0, .int .i64 0, .int .i64 0, .int .i64 0, .int .i64 0, .int .i64 0, .int .i64 0, .int .i64 0, .int .i64 0, .int .i64 0, .int .i64 0, .int .i64 0] 35) = objG zeroG from rfl]
  generalize ((w.alloc (objG g)).alloc (objI ⟨k, a, b, c, n⟩)).alloc (objG zeroG) = W at *
  have hEH : Hid (LE w W g ⟨k, a, b, c, n⟩) := hE
  obtain ⟨i0, i1, i2, i3, i4⟩ := hE.i
  have ra := hE.g.reg hl a ha0 ha1
  have fa := hE.g.fz (4 + a.toNat)
  have rb := hE.g.reg hl b hb0 hb1
  have fb := hE.g.fz (4 + b.toNat)
  have rc := hE.g.reg hl c hc0 hc1
  have fc := hE.g.fz (4 + c.toNat)
  clear hE hb1 k1 k2 cA
  have rbv := rb
  have rcv := rc
  generalize g.get b = vb at *
  generalize g.get c = vc at *
  go_wp2_with fail
  have s0 := fun s => bey_cell i0 s
  have s1 := fun s => bey_cell i1 s
  have s2 := fun s => bey_cell i2 s
  have s3 := fun s => bey_cell i3 s
  have sb := fun s => bey_cell rb s
  have sc := fun s => bey_cell rc s
  have hne := bey_some W
  refine wp_region_cls (Bey W) (by kernel_rfl) (by kernel_rfl) (bey_drew W) ?_
  repeat (go_big_quiet_step ((go_at_call 55; exact calls_bey (cA' _))))
  refine wpQuiet_nil ?_
  intro _ hw'
  obtain ⟨sq, hw''⟩ := hw'
  subst hw''
  have hEQ : Hid (Below W.heap.size W sq.w) := sq.h
  have hEB : Hid (Below w.heap.size w sq.w) := bthen hEH.out.b sq.h
  have hgQ : InG sq.w w.heap.size g := hEH.out.g.later sq.h
  have hzQ : InG sq.w (w.heap.size + 2) zeroG := hEH.out.z.later sq.h
  obtain ⟨j0, j1, j2, j3, j4⟩ := hEH.out.i.later sq.h
  clear s0 s1 s2 s3 sb sc hne hEQ i0 i1 i2 i3 i4 ra rb rc fa fb fc rbv rcv cA'
  have ra := hgQ.reg hl a ha0 ha1
  have fa := hgQ.fz (4 + a.toNat)
  generalize sq.w = V at *
  have hg2 := hgQ
  have hz1 := hzQ
  have hb1 : Hid (Below w.heap.size w V) := hEB.out
  clear ra fa j0 j1 j2 j3 j4 hgQ hzQ
  go_wp2_with (first
    | (refine wpList_load_row rfl 35 _ rfl w.heap.size rfl _ _ _ _ hg2 Tryd.underlying35 rfl (infoG hl) ?_)
    | (go_at_call 54; (with_reducible refine (cE _).mono ?_); rintro e W2 ⟨rfl, hb3⟩; (have hz2 := hz1.later hb3); (have hb2 : Hid (Below w.heap.size w W2) := bthen hb1.out hb3))
    | (refine wpList_store_row rfl 35 _ _ rfl (w.heap.size + 2) (Gr.cells (g.end 4 3)).toArray rfl rfl _ _ hz2 (infoG hX) (sizeGG rfl hX) (oneG _) ?_))
  exact bodyPost_ret (results_g Tryd.results35 _ _ (w.heap.size + 2) (g.end 4 3) hX rfl (hz2.set _)) rfl ⟨rfl, below_setRowG hb2.out (by omega) _⟩
end Go.Proofs.YtjcmhaaohdmjpaaDoor.pg
