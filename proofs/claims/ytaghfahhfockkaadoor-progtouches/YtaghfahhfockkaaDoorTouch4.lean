/- What an instruction reads and sets: package prog's answers of every program and every place. -/
import Derived.Test.YtaghfahhfockkaaDoorTouch3
namespace Go.Proofs.YtaghfahhfockkaaDoor.pg
open Go.ChangeShapes Go.WideShapes Go.ChangeAt Go.RowKit
set_option linter.unusedVariables false
set_option linter.unusedSimpArgs false
set_option maxRecDepth 100000
/-- What is asked and answered, of every program and every place. -/
def Asked (M : MPr) (f pc : Int) (R S : List Int) (c : Int) : Prop :=
  (¬ (chk insP M.pr).1 = 0 ∧ R = [] ∧ S = [] ∧ c = 3) ∨
  ((chk insP M.pr).1 = 0 ∧ R = [] ∧ S = [] ∧ c = 1 ∧ ((f < 0 ∨ (M.fns.length : Int) ≤ f) ∨ ∃ (n : Nat) (F : MFn), f = (n : Int) ∧ M.fns[n]? = some F ∧ (pc < 0 ∨ (F.code.length : Int) ≤ pc))) ∨
  ((chk insP M.pr).1 = 0 ∧ c = 0 ∧ ∃ (n q : Nat) (F : MFn) (i : Ins), f = (n : Int) ∧ pc = (q : Int) ∧ M.fns[n]? = some F ∧ F.code[q]? = some i ∧ R = (touchTo M.pr F.fn i 4).1 ∧ S = (touchTo M.pr F.fn i 4).2)
theorem asked_ex (M : MPr) (f pc : Int) : ∃ R S c, Asked M f pc R S c := by
  by_cases hr : (chk insP M.pr).1 = 0
  · by_cases h1 : f < 0 ∨ (M.fns.length : Int) ≤ f
    · exact ⟨[], [], 1, .inr (.inl ⟨hr, rfl, rfl, rfl, .inl h1⟩)⟩
    · obtain ⟨F, hF, _⟩ := get_lt M.fns f.toNat (by omega)
      by_cases h2 : pc < 0 ∨ (F.code.length : Int) ≤ pc
      · exact ⟨[], [], 1, .inr (.inl ⟨hr, rfl, rfl, rfl, .inr ⟨f.toNat, F, by omega, hF, h2⟩⟩)⟩
      · obtain ⟨i, hi, _⟩ := get_lt F.code pc.toNat (by omega)
        exact ⟨_, _, 0, .inr (.inr ⟨hr, rfl, f.toNat, pc.toNat, F, i, by omega, by omega, hF, hi, rfl, rfl⟩)⟩
  · exact ⟨[], [], 3, .inl ⟨hr, rfl, rfl, rfl⟩⟩
abbrev marksV0 : Value := .agg #[.bool false, .bool false, .bool false, .bool false, .bool false, .bool false, .bool false, .bool false]
theorem marksV_nil : marksV (inl []) = marksV0 := by simp only [marksV, inl_nil]
section
variable (M : MPr) (f pc : Int) (w : World)
set_option maxHeartbeats 4000000 in
theorem touched_wrong (hl : M.lies w) (hF : prog.Forms w) (hr : ¬ (chk insP M.pr).1 = 0) :
    Calls Tryd.prog 18 #[M.val, .int .i64 f, .int .i64 pc] w fun e w' => e = .returned (.tuple #[marksV0, marksV0, .int .i64 3]) ∧ Below w.heap.size w w' := by
  obtain ⟨a, b, c, hc⟩ : ∃ a b c, Hid (chk insP M.pr = (a, b, c)) := ⟨_, _, _, rfl⟩
  have ha : ¬ a = 0 := fun q => hr (by rw [hc.out]; exact q)
  have hb3 := boxed3 w (objP M) objM0 objM0
  have m1 : MBox (((w.alloc (objP M)).alloc objM0).alloc objM0) (w.heap.size + 1) [] := MBox.later (l := []) (by unfold MBox; rw [objM_nil]; have := heap_alloc_new (w.alloc (objP M)) objM0; rwa [World.size_alloc] at this) (boxed _ _)
  have m2 : MBox (((w.alloc (objP M)).alloc objM0).alloc objM0) (w.heap.size + 1 + 1) [] := by
    unfold MBox; rw [objM_nil]; have := heap_alloc_new ((w.alloc (objP M)).alloc objM0) objM0; simpa only [World.size_alloc] using this
  have hcall := check_any M _ (hl.later hb3) (hF.later hb3) a b c hc
  clear hr hc hl hF
  go_enter Tryd.func18, Tryd.ntmps18
  go_upto_region 3 with (go_at_call 22; (with_reducible refine hcall.mono ?_); rintro e w2 ⟨rfl, hb2⟩; (have hw2 : Below w.heap.size w w2 := bthen hb3 hb2))
  obtain ⟨W, hW⟩ : ∃ W, W = w2.alloc (Obj.cells #[.int .i64 b, .int .i64 c] 66) := ⟨_, rfl⟩
  have h2W : Below w2.heap.size w2 W := by rw [hW]; exact boxed _ _
  have HM1 := (m1.later hb2).later h2W
  have HM2 := (m2.later hb2).later h2W
  have hwW : Below w.heap.size w W := bthen hw2 h2W
  have hz1 : w.heap.size + 1 < W.heap.size := HM1.lt
  have hz2 : w.heap.size + 1 + 1 < W.heap.size := HM2.lt
  have fr1 := fun x => HM1.free x
  have fr2 := fun x => HM2.free x
  have d0 : W.cell? ⟨w.heap.size + 1, 0, none⟩ = some (.bool false) := (HM1.cell 0 (by omega)).trans (by rw [inl_nil])
  have d1 : W.cell? ⟨w.heap.size + 1, 1, none⟩ = some (.bool false) := (HM1.cell 1 (by omega)).trans (by rw [inl_nil])
  have d2 : W.cell? ⟨w.heap.size + 1, 2, none⟩ = some (.bool false) := (HM1.cell 2 (by omega)).trans (by rw [inl_nil])
  have d3 : W.cell? ⟨w.heap.size + 1, 3, none⟩ = some (.bool false) := (HM1.cell 3 (by omega)).trans (by rw [inl_nil])
  have d4 : W.cell? ⟨w.heap.size + 1, 4, none⟩ = some (.bool false) := (HM1.cell 4 (by omega)).trans (by rw [inl_nil])
  have d5 : W.cell? ⟨w.heap.size + 1, 5, none⟩ = some (.bool false) := (HM1.cell 5 (by omega)).trans (by rw [inl_nil])
  have d6 : W.cell? ⟨w.heap.size + 1, 6, none⟩ = some (.bool false) := (HM1.cell 6 (by omega)).trans (by rw [inl_nil])
  have d7 : W.cell? ⟨w.heap.size + 1, 7, none⟩ = some (.bool false) := (HM1.cell 7 (by omega)).trans (by rw [inl_nil])
  have g0 : W.cell? ⟨w.heap.size + 1 + 1, 0, none⟩ = some (.bool false) := (HM2.cell 0 (by omega)).trans (by rw [inl_nil])
  have g1 : W.cell? ⟨w.heap.size + 1 + 1, 1, none⟩ = some (.bool false) := (HM2.cell 1 (by omega)).trans (by rw [inl_nil])
  have g2 : W.cell? ⟨w.heap.size + 1 + 1, 2, none⟩ = some (.bool false) := (HM2.cell 2 (by omega)).trans (by rw [inl_nil])
  have g3 : W.cell? ⟨w.heap.size + 1 + 1, 3, none⟩ = some (.bool false) := (HM2.cell 3 (by omega)).trans (by rw [inl_nil])
  have g4 : W.cell? ⟨w.heap.size + 1 + 1, 4, none⟩ = some (.bool false) := (HM2.cell 4 (by omega)).trans (by rw [inl_nil])
  have g5 : W.cell? ⟨w.heap.size + 1 + 1, 5, none⟩ = some (.bool false) := (HM2.cell 5 (by omega)).trans (by rw [inl_nil])
  have g6 : W.cell? ⟨w.heap.size + 1 + 1, 6, none⟩ = some (.bool false) := (HM2.cell 6 (by omega)).trans (by rw [inl_nil])
  have g7 : W.cell? ⟨w.heap.size + 1 + 1, 7, none⟩ = some (.bool false) := (HM2.cell 7 (by omega)).trans (by rw [inl_nil])
  rw [← hW]
  clear hW h2W hb2 m1 m2
  go_wp2
  simp only [setCell_self d0, setCell_self d1, setCell_self d2, setCell_self d3, setCell_self d4, setCell_self d5, setCell_self d6, setCell_self d7, setCell_self g0, setCell_self g1, setCell_self g2, setCell_self g3, setCell_self g4, setCell_self g5, setCell_self g6, setCell_self g7]
  refine bodyPost_ret (v := .tuple #[marksV0, marksV0, .int .i64 3]) ?_ rfl ⟨rfl, hwW⟩
  simp [results, Tryd.results18, go_sem, d0, d1, d2, d3, d4, d5, d6, d7, g0, g1, g2, g3, g4, g5, g6, g7]
set_option maxHeartbeats 4000000 in
theorem touched_arg (hl : M.lies w) (hF : prog.Forms w) (hr : (chk insP M.pr).1 = 0) (h : (f < 0 ∨ (M.fns.length : Int) ≤ f) ∨ ∃ (n : Nat) (F : MFn), f = (n : Int) ∧ M.fns[n]? = some F ∧ (pc < 0 ∨ (F.code.length : Int) ≤ pc)) :
    Calls Tryd.prog 18 #[M.val, .int .i64 f, .int .i64 pc] w fun e w' => e = .returned (.tuple #[marksV0, marksV0, .int .i64 1]) ∧ Below w.heap.size w w' := by
  obtain ⟨b, c, hc⟩ : ∃ b c, Hid (chk insP M.pr = (0, b, c)) := ⟨(chk insP M.pr).2.1, (chk insP M.pr).2.2, by show _ = _; rw [← hr]⟩
  have hb3 := boxed3 w (objP M) objM0 objM0
  have bP : BoxP (((w.alloc (objP M)).alloc objM0).alloc objM0) w.heap.size M := ((boxP_new w M).later (boxed _ _)).later (boxed _ _)
  have m1 : MBox (((w.alloc (objP M)).alloc objM0).alloc objM0) (w.heap.size + 1) [] := MBox.later (l := []) (by unfold MBox; rw [objM_nil]; have := heap_alloc_new (w.alloc (objP M)) objM0; rwa [World.size_alloc] at this) (boxed _ _)
  have m2 : MBox (((w.alloc (objP M)).alloc objM0).alloc objM0) (w.heap.size + 1 + 1) [] := by
    unfold MBox; rw [objM_nil]; have := heap_alloc_new ((w.alloc (objP M)).alloc objM0) objM0; simpa only [World.size_alloc] using this
  have hcall := check_any M _ (hl.later hb3) (hF.later hb3) 0 b c hc
  have hfI : (M.fns.length : Int) ≤ 9223372036854775807 := rows_len hl.2.2.1
  have hLw : Hid (M.lies w) := hl
  clear hr hc hl hF
  rcases h with h | ⟨n, F, rfl, hf, h⟩
  · have hs1 : ∀ wx, Calls Tryd.prog 36 #[.int .i64 f, .int .i64 (M.fns.length : Int)] wx _ := fun wx => below_f f M.fns.length wx h
    clear h
    go_enter Tryd.func18, Tryd.ntmps18
    go_upto_region 5 with (first
      | (go_at_call 22; (with_reducible refine hcall.mono ?_); rintro e w2 ⟨rfl, hb2⟩; obtain ⟨p0, p1, p2, p3⟩ := bP.later hb2; (have hw2 : Below w.heap.size w w2 := bthen hb3 hb2); (have hz0 : w.heap.size < w2.heap.size := (bP.later hb2).lt))
      | (go_at_call 36; (with_reducible refine (hs1 _).mono ?_); rintro e w3 ⟨rfl, rfl⟩))
    obtain ⟨W, hW⟩ : ∃ W, W = w2.alloc (Obj.cells #[.int .i64 b, .int .i64 c] 66) := ⟨_, rfl⟩
    have h2W : Below w2.heap.size w2 W := by rw [hW]; exact boxed _ _
    have HM1 := (m1.later hb2).later h2W
    have HM2 := (m2.later hb2).later h2W
    have hwW : Below w.heap.size w W := bthen hw2 h2W
    have hz1 : w.heap.size + 1 < W.heap.size := HM1.lt
    have hz2 : w.heap.size + 1 + 1 < W.heap.size := HM2.lt
    have fr1 := fun x => HM1.free x
    have fr2 := fun x => HM2.free x
    have d0 : W.cell? ⟨w.heap.size + 1, 0, none⟩ = some (.bool false) := (HM1.cell 0 (by omega)).trans (by rw [inl_nil])
    have d1 : W.cell? ⟨w.heap.size + 1, 1, none⟩ = some (.bool false) := (HM1.cell 1 (by omega)).trans (by rw [inl_nil])
    have d2 : W.cell? ⟨w.heap.size + 1, 2, none⟩ = some (.bool false) := (HM1.cell 2 (by omega)).trans (by rw [inl_nil])
    have d3 : W.cell? ⟨w.heap.size + 1, 3, none⟩ = some (.bool false) := (HM1.cell 3 (by omega)).trans (by rw [inl_nil])
    have d4 : W.cell? ⟨w.heap.size + 1, 4, none⟩ = some (.bool false) := (HM1.cell 4 (by omega)).trans (by rw [inl_nil])
    have d5 : W.cell? ⟨w.heap.size + 1, 5, none⟩ = some (.bool false) := (HM1.cell 5 (by omega)).trans (by rw [inl_nil])
    have d6 : W.cell? ⟨w.heap.size + 1, 6, none⟩ = some (.bool false) := (HM1.cell 6 (by omega)).trans (by rw [inl_nil])
    have d7 : W.cell? ⟨w.heap.size + 1, 7, none⟩ = some (.bool false) := (HM1.cell 7 (by omega)).trans (by rw [inl_nil])
    have g0 : W.cell? ⟨w.heap.size + 1 + 1, 0, none⟩ = some (.bool false) := (HM2.cell 0 (by omega)).trans (by rw [inl_nil])
    have g1 : W.cell? ⟨w.heap.size + 1 + 1, 1, none⟩ = some (.bool false) := (HM2.cell 1 (by omega)).trans (by rw [inl_nil])
    have g2 : W.cell? ⟨w.heap.size + 1 + 1, 2, none⟩ = some (.bool false) := (HM2.cell 2 (by omega)).trans (by rw [inl_nil])
    have g3 : W.cell? ⟨w.heap.size + 1 + 1, 3, none⟩ = some (.bool false) := (HM2.cell 3 (by omega)).trans (by rw [inl_nil])
    have g4 : W.cell? ⟨w.heap.size + 1 + 1, 4, none⟩ = some (.bool false) := (HM2.cell 4 (by omega)).trans (by rw [inl_nil])
    have g5 : W.cell? ⟨w.heap.size + 1 + 1, 5, none⟩ = some (.bool false) := (HM2.cell 5 (by omega)).trans (by rw [inl_nil])
    have g6 : W.cell? ⟨w.heap.size + 1 + 1, 6, none⟩ = some (.bool false) := (HM2.cell 6 (by omega)).trans (by rw [inl_nil])
    have g7 : W.cell? ⟨w.heap.size + 1 + 1, 7, none⟩ = some (.bool false) := (HM2.cell 7 (by omega)).trans (by rw [inl_nil])
    rw [← hW]
    clear hW h2W hb2 m1 m2
    go_wp2
    simp only [setCell_self d0, setCell_self d1, setCell_self d2, setCell_self d3, setCell_self d4, setCell_self d5, setCell_self d6, setCell_self d7, setCell_self g0, setCell_self g1, setCell_self g2, setCell_self g3, setCell_self g4, setCell_self g5, setCell_self g6, setCell_self g7]
    refine bodyPost_ret (v := .tuple #[marksV0, marksV0, .int .i64 1]) ?_ rfl ⟨rfl, hwW⟩
    simp [results, Tryd.results18, go_sem, d0, d1, d2, d3, d4, d5, d6, d7, g0, g1, g2, g3, g4, g5, g6, g7]
  · have hfl : n < M.fns.length := (List.getElem?_eq_some_iff.mp hf).1
    have hFm : F ∈ M.fns := List.mem_of_getElem? hf
    have hs1 : ∀ wx, Calls Tryd.prog 36 #[.int .i64 (n : Int), .int .i64 (M.fns.length : Int)] wx _ := fun wx => below_t n M.fns.length wx (by omega)
    have hs2 : ∀ wx, Calls Tryd.prog 36 #[.int .i64 pc, .int .i64 (F.code.length : Int)] wx _ := fun wx => below_f pc F.code.length wx h
    clear h
    go_enter Tryd.func18, Tryd.ntmps18
    go_upto_region 5 with (first
      | (go_at_call 22; (with_reducible refine hcall.mono ?_); rintro e w2 ⟨rfl, hb2⟩; obtain ⟨p0, p1, p2, p3⟩ := bP.later hb2; (have hw2 : Below w.heap.size w w2 := bthen hb3 hb2); (have hz0 : w.heap.size < w2.heap.size := (bP.later hb2).lt); obtain ⟨fb, fo, hfix, hfbl, fc0, fc1, fc2, fc3⟩ := fn_ix (hLw.out.later hw2).2.2.1 n F hf)
      | (go_at_call 36; (with_reducible refine (hs1 _).mono ?_); rintro e w3 ⟨rfl, rfl⟩)
      | (go_at_call 36; (with_reducible refine (hs2 _).mono ?_); rintro e w3 ⟨rfl, rfl⟩))
    obtain ⟨W, hW⟩ : ∃ W, W = w2.alloc (Obj.cells #[.int .i64 b, .int .i64 c] 66) := ⟨_, rfl⟩
    have h2W : Below w2.heap.size w2 W := by rw [hW]; exact boxed _ _
    have HM1 := (m1.later hb2).later h2W
    have HM2 := (m2.later hb2).later h2W
    have hwW : Below w.heap.size w W := bthen hw2 h2W
    have hz1 : w.heap.size + 1 < W.heap.size := HM1.lt
    have hz2 : w.heap.size + 1 + 1 < W.heap.size := HM2.lt
    have fr1 := fun x => HM1.free x
    have fr2 := fun x => HM2.free x
    have d0 : W.cell? ⟨w.heap.size + 1, 0, none⟩ = some (.bool false) := (HM1.cell 0 (by omega)).trans (by rw [inl_nil])
    have d1 : W.cell? ⟨w.heap.size + 1, 1, none⟩ = some (.bool false) := (HM1.cell 1 (by omega)).trans (by rw [inl_nil])
    have d2 : W.cell? ⟨w.heap.size + 1, 2, none⟩ = some (.bool false) := (HM1.cell 2 (by omega)).trans (by rw [inl_nil])
    have d3 : W.cell? ⟨w.heap.size + 1, 3, none⟩ = some (.bool false) := (HM1.cell 3 (by omega)).trans (by rw [inl_nil])
    have d4 : W.cell? ⟨w.heap.size + 1, 4, none⟩ = some (.bool false) := (HM1.cell 4 (by omega)).trans (by rw [inl_nil])
    have d5 : W.cell? ⟨w.heap.size + 1, 5, none⟩ = some (.bool false) := (HM1.cell 5 (by omega)).trans (by rw [inl_nil])
    have d6 : W.cell? ⟨w.heap.size + 1, 6, none⟩ = some (.bool false) := (HM1.cell 6 (by omega)).trans (by rw [inl_nil])
    have d7 : W.cell? ⟨w.heap.size + 1, 7, none⟩ = some (.bool false) := (HM1.cell 7 (by omega)).trans (by rw [inl_nil])
    have g0 : W.cell? ⟨w.heap.size + 1 + 1, 0, none⟩ = some (.bool false) := (HM2.cell 0 (by omega)).trans (by rw [inl_nil])
    have g1 : W.cell? ⟨w.heap.size + 1 + 1, 1, none⟩ = some (.bool false) := (HM2.cell 1 (by omega)).trans (by rw [inl_nil])
    have g2 : W.cell? ⟨w.heap.size + 1 + 1, 2, none⟩ = some (.bool false) := (HM2.cell 2 (by omega)).trans (by rw [inl_nil])
    have g3 : W.cell? ⟨w.heap.size + 1 + 1, 3, none⟩ = some (.bool false) := (HM2.cell 3 (by omega)).trans (by rw [inl_nil])
    have g4 : W.cell? ⟨w.heap.size + 1 + 1, 4, none⟩ = some (.bool false) := (HM2.cell 4 (by omega)).trans (by rw [inl_nil])
    have g5 : W.cell? ⟨w.heap.size + 1 + 1, 5, none⟩ = some (.bool false) := (HM2.cell 5 (by omega)).trans (by rw [inl_nil])
    have g6 : W.cell? ⟨w.heap.size + 1 + 1, 6, none⟩ = some (.bool false) := (HM2.cell 6 (by omega)).trans (by rw [inl_nil])
    have g7 : W.cell? ⟨w.heap.size + 1 + 1, 7, none⟩ = some (.bool false) := (HM2.cell 7 (by omega)).trans (by rw [inl_nil])
    rw [← hW]
    clear hW h2W hb2 m1 m2
    go_wp2
    simp only [setCell_self d0, setCell_self d1, setCell_self d2, setCell_self d3, setCell_self d4, setCell_self d5, setCell_self d6, setCell_self d7, setCell_self g0, setCell_self g1, setCell_self g2, setCell_self g3, setCell_self g4, setCell_self g5, setCell_self g6, setCell_self g7]
    refine bodyPost_ret (v := .tuple #[marksV0, marksV0, .int .i64 1]) ?_ rfl ⟨rfl, hwW⟩
    simp [results, Tryd.results18, go_sem, d0, d1, d2, d3, d4, d5, d6, d7, g0, g1, g2, g3, g4, g5, g6, g7]
theorem touched_all (hl : M.lies w) (hF : prog.Forms w) {R S : List Int} {c : Int} (h : Asked M f pc R S c) :
    Calls Tryd.prog 18 #[M.val, .int .i64 f, .int .i64 pc] w fun e w' => e = .returned (.tuple #[marksV (inl R), marksV (inl S), .int .i64 c]) ∧ Below w.heap.size w w' := by
  rcases h with ⟨hr, rfl, rfl, rfl⟩ | ⟨hr, rfl, rfl, rfl, h⟩ | ⟨hr, rfl, n, q, F, i, rfl, rfl, hf, hi, rfl, rfl⟩
  · rw [marksV_nil]; exact touched_wrong M f pc w hl hF hr
  · rw [marksV_nil]; exact touched_arg M f pc w hl hF hr h
  · exact touched_any M n q F i w hl hF hr hf hi
set_option maxHeartbeats 4000000 in
theorem reads_any (hl : M.lies w) (hF : prog.Forms w) {R S : List Int} {c : Int} (h : Asked M f pc R S c) :
    Calls Tryd.prog 6 #[M.val, .int .i64 f, .int .i64 pc] w fun e w' => ∃ va vc, e = .returned (.tuple #[.slice va (upto (inl R) 8).length vc, .int .i64 c]) ∧ Rows w' 1 va vc ((upto (inl R) 8).map chCells) ∧ Below w.heap.size w w' := by
  have hb := boxed w (objP M)
  have hcall := touched_all M f pc _ (hl.later hb) (hF.later hb) h
  have hls : ∀ wx, Calls Tryd.prog 19 #[marksV (inl R)] wx _ := fun wx => list_any (inl R) wx
  clear h hl hF
  go_enter Tryd.func6, Tryd.ntmps6
  go_wp2_with (first
    | (go_at_call 18; (with_reducible refine hcall.mono ?_); rintro e w2 ⟨rfl, hb2⟩; (have hw2 : Below w.heap.size w w2 := bthen hb hb2))
    | (go_at_call 19; (with_reducible refine (hls _).mono ?_); rintro e w3 ⟨va, vc, rfl, ho, hb3⟩))
  refine bodyPost_ret (v := .tuple #[.slice va (upto (inl R) 8).length vc, .int .i64 c]) ?_ rfl ⟨va, vc, rfl, own_rows ho (len1 _), bthen (bthen hw2 (boxed2 _ _ _)) hb3⟩
  simp [results, Tryd.results6, go_sem]
set_option maxHeartbeats 4000000 in
theorem sets_any (hl : M.lies w) (hF : prog.Forms w) {R S : List Int} {c : Int} (h : Asked M f pc R S c) :
    Calls Tryd.prog 8 #[M.val, .int .i64 f, .int .i64 pc] w fun e w' => ∃ va vc, e = .returned (.tuple #[.slice va (upto (inl S) 8).length vc, .int .i64 c]) ∧ Rows w' 1 va vc ((upto (inl S) 8).map chCells) ∧ Below w.heap.size w w' := by
  have hb := boxed w (objP M)
  have hcall := touched_all M f pc _ (hl.later hb) (hF.later hb) h
  have hls : ∀ wx, Calls Tryd.prog 19 #[marksV (inl S)] wx _ := fun wx => list_any (inl S) wx
  clear h hl hF
  go_enter Tryd.func8, Tryd.ntmps8
  go_wp2_with (first
    | (go_at_call 18; (with_reducible refine hcall.mono ?_); rintro e w2 ⟨rfl, hb2⟩; (have hw2 : Below w.heap.size w w2 := bthen hb hb2))
    | (go_at_call 19; (with_reducible refine (hls _).mono ?_); rintro e w3 ⟨va, vc, rfl, ho, hb3⟩))
  refine bodyPost_ret (v := .tuple #[.slice va (upto (inl S) 8).length vc, .int .i64 c]) ?_ rfl ⟨va, vc, rfl, own_rows ho (len1 _), bthen (bthen hw2 (boxed2 _ _ _)) hb3⟩
  simp [results, Tryd.results8, go_sem]
end
end Go.Proofs.YtaghfahhfockkaaDoor.pg
