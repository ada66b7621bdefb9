/- How package state runs one local instruction. -/
import Derived.Test.YtofeohhnfnnifaaDoorM12
import Derived.Test.YtofeohhnfnnifaaDoorM15
import Derived.Test.YtofeohhnfnnifaaDoorM25
namespace Go.Proofs.YtofeohhnfnnifaaDoor.pg
open Go.ChangeShapes Go.WideShapes Go.ChangeAt Go.RowKit
set_option linter.unusedVariables false
set_option linter.unusedSimpArgs false
set_option maxRecDepth 100000
theorem two_boxes (w : World) (a b : Obj) : ((w.alloc a).alloc b).heap[w.heap.size]? = some a ∧ ((w.alloc a).alloc b).heap[w.heap.size + 1]? = some b := by
  refine ⟨((boxed (w.alloc a) b).block _ (by rw [World.size_alloc]; omega)).trans (heap_alloc_new w a), ?_⟩
  have := heap_alloc_new (w.alloc a) b
  rwa [World.size_alloc] at this
theorem three_boxes (w : World) (a b c : Obj) : (((w.alloc a).alloc b).alloc c).heap[w.heap.size]? = some a ∧ (((w.alloc a).alloc b).alloc c).heap[w.heap.size + 1]? = some b ∧ (((w.alloc a).alloc b).alloc c).heap[w.heap.size + 2]? = some c := by
  obtain ⟨h1, h2⟩ := two_boxes w a b
  refine ⟨((boxed _ c).block _ (by simp only [World.size_alloc]; omega)).trans h1, ((boxed _ c).block _ (by simp only [World.size_alloc]; omega)).trans h2, ?_⟩
  have := heap_alloc_new ((w.alloc a).alloc b) c
  rwa [World.size_alloc, World.size_alloc] at this
theorem end_len (g : Gr) (st why : Int) : (g.end st why).rg.length = 8 := rfl
theorem ended_any (g : Gr) (st why : Int) (w : World) : Calls Tryd.prog 54 #[g.val, .int .i64 st, .int .i64 why] w fun e w' => e = .returned (g.end st why).val ∧ Below w.heap.size w w' := by
  have hb := boxed2 w (objG g) (objG zeroG)
  obtain ⟨h1, h2⟩ := two_boxes w (objG g) (objG zeroG)
  go_enter Tryd.func54, Tryd.ntmps54
  go_upto_region 1 with fail
  rw [show (Obj.cells #[.int .i64 0, .int .i64 0, .int .i64 0, .int .i64 0, .int .i64 0, .int .i64 0, .int .i64 0, .int .i64 0, .int .i64 0, .int .i64 0, .int .i64 0, .int .i64 0] 35) = objG zeroG from rfl]
  generalize (w.alloc (objG g)).alloc (objG zeroG) = W at *
  have h1' : InG W w.heap.size g := h1
  have h2' : InG W (w.heap.size + 1) zeroG := h2
  have x1 := h1'.c1
  have x2 := h1'.c2
  clear h1 h2 h1'
  have hbH : Hid (Below w.heap.size w W) := hb
  clear hb
  go_wp2_with (refine wpList_store_row rfl 35 _ _ rfl (w.heap.size + 1) (g.end st why).cells.toArray rfl rfl _ _ h2' (infoG (end_len g st why)) rfl (oneG (g.end st why)) ?_)
  exact bodyPost_ret (results_g Tryd.results54 _ _ (w.heap.size + 1) (g.end st why) rfl rfl (h2'.set _)) rfl ⟨rfl, below_setRowG hbH.out (by omega) _⟩
end Go.Proofs.YtofeohhnfnnifaaDoor.pg
/- Package state's local, operation by operation. -/
namespace Go.Proofs.YtofeohhnfnnifaaDoor.pg
open Go.ChangeShapes Go.WideShapes Go.ChangeAt Go.RowKit
set_option linter.unusedVariables false
set_option linter.unusedSimpArgs false
set_option maxRecDepth 100000
structure LE (w W : World) (g : Gr) (i : Ins) : Prop where
  b : Below w.heap.size w W
  g : InG W w.heap.size g
  i : BoxI W (w.heap.size + 1) i
  z : InG W (w.heap.size + 2) zeroG
theorem le_new (w : World) (g : Gr) (i : Ins) : LE w (((w.alloc (objG g)).alloc (objI i)).alloc (objG zeroG)) g i := by
  obtain ⟨h1, h2, h3⟩ := three_boxes w (objG g) (objI i) (objG zeroG)
  exact ⟨boxed3 _ _ _ _, h1, ⟨cell_ofG h2 rfl, cell_ofG h2 rfl, cell_ofG h2 rfl, cell_ofG h2 rfl, cell_ofG h2 rfl⟩, h3⟩
theorem BoxI.set {w : World} {B B' k : Nat} {i : Ins} {v : Value} (h : BoxI w B i) (hne : B ≠ B') : BoxI (w.setCell ⟨B', k, none⟩ v) B i := by
  have key : ∀ q, (w.setCell ⟨B', k, none⟩ v).cell? ⟨B, q, none⟩ = w.cell? ⟨B, q, none⟩ := fun q => by simp only [World.cell?, Below.heap_setCell w ⟨B', k, none⟩ v B hne]
  exact ⟨(key 0).trans h.1, (key 1).trans h.2.1, (key 2).trans h.2.2.1, (key 3).trans h.2.2.2.1, (key 4).trans h.2.2.2.2⟩
theorem pc1 {x : Int} (h0 : 0 ≤ x) (h1 : x < 64) : wrap64 (x + 1) = x + 1 := by unfold wrap64; omega
/-- What a call of local leaves. -/
abbrev LocC (g : Gr) (i : Ins) (x : Gr) (w : World) : Prop := Calls Tryd.prog 35 #[g.val, i.val] w fun e w' => e = .returned x.val ∧ Below w.heap.size w w'
set_option maxHeartbeats 1000000 in
theorem local_const (g : Gr) (a b c n : Int) (hl : g.rg.length = 8) (p0 : 0 ≤ g.pc) (p1 : g.pc < 64) (h0 : 0 ≤ a) (h1 : a < 8) (w : World) : LocC g ⟨40, a, b, c, n⟩ (g.set a n).adv w := by
  have hE := le_new w g ⟨40, a, b, c, n⟩
  have xa := ix8 w.heap.size a h0 h1
  have hX : ((g.set a n).adv).rg.length = 8 := by simp [Gr.adv, Gr.set, hl]
  go_enter Tryd.func35, Tryd.ntmps35
  go_upto_region 1 with fail
  rw [show (Obj.cells #[.int .i64 0, .int .i64 0, .int .i64 0, .int .i64 0, .int .i64 0, .int .i64 0, .int .i64 0, .int .i64 0, .int .i64 0, .int .i64 0, .int .i64 0, .int .i64 0] 35) = objG zeroG from rfl]
  generalize ((w.alloc (objG g)).alloc (objI ⟨40, a, b, c, n⟩)).alloc (objG zeroG) = W at *
  have hEH : Hid (LE w W g ⟨40, a, b, c, n⟩) := hE
  obtain ⟨i0, i1, i2, i3, i4⟩ := hE.i
  have ra := hE.g.reg hl a h0 h1
  have rf := hE.g.fz (4 + a.toNat)
  clear hE
  go_wp2_with (first
    | (refine wpList_puti rfl 2 _ _ rfl ⟨w.heap.size, 4 + a.toNat, none⟩ rfl n rfl (by kernel_rfl) _ ra rf ?_; intro W1 hW1; (have hg1 : InG W1 w.heap.size (g.set a n) := by rw [hW1]; exact hEH.out.g.setR a n); (have hz1 : InG W1 (w.heap.size + 2) zeroG := by rw [hW1]; exact (Below.heap_setCell _ _ _ _ (by simp)).trans hEH.out.z); (have hb1 : Hid (Below w.heap.size w W1) := by rw [hW1]; exact hEH.out.b.setCell (p := ⟨w.heap.size, 4 + a.toNat, none⟩) (Nat.le_refl _) _); (have x2 := hg1.c2); (have f2 := hg1.fz 2); (have hg1H : Hid (InG W1 w.heap.size (g.set a n)) := hg1); (have hz1H : Hid (InG W1 (w.heap.size + 2) zeroG) := hz1); clear hW1 hg1 hz1 ra rf i0 i1 i2 i3 i4)
    | (refine wpList_puti rfl 3 _ _ rfl ⟨w.heap.size, 2, none⟩ rfl (g.pc + 1) (by rw [← pc1 p0 p1]; rfl) (by kernel_rfl) _ x2 f2 ?_; intro W2 hW2; (have hg2 : InG W2 w.heap.size (g.set a n).adv := by rw [hW2]; exact hg1H.out.setP (g.pc + 1)); (have hz2 : InG W2 (w.heap.size + 2) zeroG := by rw [hW2]; exact (Below.heap_setCell _ _ _ _ (by simp)).trans hz1H.out); (have hb2 : Hid (Below w.heap.size w W2) := by rw [hW2]; exact hb1.out.setCell (p := ⟨w.heap.size, 2, none⟩) (Nat.le_refl _) _); clear hW2 x2 f2)
    | (refine wpList_load_row rfl 35 _ rfl w.heap.size rfl _ _ _ _ hg2 Tryd.underlying35 rfl (infoG hX) ?_)
    | (refine wpList_store_row rfl 35 _ _ rfl (w.heap.size + 2) ((g.set a n).adv).cells.toArray rfl rfl _ _ hz2 (infoG hX) (sizeGG rfl hX) (oneG _) ?_))
  exact bodyPost_ret (results_g Tryd.results35 _ _ (w.heap.size + 2) ((g.set a n).adv) hX rfl (hz2.set _)) rfl ⟨rfl, below_setRowG hb2.out (by omega) _⟩
end Go.Proofs.YtofeohhnfnnifaaDoor.pg
