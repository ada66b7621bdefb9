/- ProgCopies, walked. -/
import Derived.Test.YtaghfahhfockkaaCopies0
namespace Go.Proofs.Ytaghfahhfockkaa.pg
open Go.ChangeShapes Go.WideShapes Go.ChangeAt Go.RowKit
set_option linter.unusedVariables false
set_option linter.unusedSimpArgs false
set_option maxRecDepth 100000
theorem cell_keep2 {w w' : World} {b o : Nat} {u : Value} (h : w.cell? ⟨b, o, none⟩ = some u) (hk : w'.heap[b]? = w.heap[b]?) : w'.cell? ⟨b, o, none⟩ = some u := by
  rw [World.cell?] at h ⊢
  simp only [hk]
  exact h
theorem wet_lt {p : MPr} {n : Nat} (h : ∀ b ∈ p.blocks, b < n) {g : Nat} (hg : g ∈ p.wet) : g < n := by
  apply h
  unfold MPr.wet at hg
  unfold MPr.blocks MPr.rest
  simp only [List.mem_append, List.mem_flatMap] at hg ⊢
  rcases hg with q | q | ⟨f, hf, q⟩
  · exact .inr (.inl q)
  · exact .inr (.inr (.inl q))
  · refine .inr (.inr (.inr ⟨f, hf, ?_⟩))
    unfold MFn.wet at q
    unfold MFn.blocks MFn.rest
    simp only [List.mem_append, List.mem_flatMap] at q ⊢
    rcases q with q | q
    · exact .inr (.inl q)
    · exact .inr (.inr q)
set_option maxHeartbeats 8000000 in
theorem copies_any (M : MPr) (w : World) (hl : M.lies w) (hz : M.sz) :
    Calls Try.prog 3 #[M.val] w fun e w' => e = .returned (.bool true) ∧ Below w.heap.size w w' := by
  have hb := boxed w (objP M)
  have bM := boxP_new w M
  have c1 := copy_any M _ (hl.later hb) hz
  have hlH : Hid (M.lies w) := hl
  have hzH : Hid M.sz := hz
  have hbMo : Hid ((w.alloc (objP M)).heap[w.heap.size]? = some (objP M)) := heap_alloc_new _ _
  clear hl hz
  go_enter Try.func3, Try.ntmps3
  go_upto_region 4 with (first
    | (go_at_call 4; (with_reducible refine c1.mono ?_); rintro e wc ⟨C, rfl, hcp, hbc⟩; (have hwc : Below w.heap.size w wc := bthen hb hbc); (have hC1 := own_lies (hlH.out.later hwc) hcp.1 hcp.2.1 hcp.2.2.1 hcp.2.2.2.1 hcp.2.2.2.2.1); (have hCz : Hid C.sz := sz_of hzH.out hcp.1 hcp.2.2.1 hcp.2.2.2.1); (have k1 := copy2_any C _ (hC1.1.later (boxed wc (objP C))) hCz.out))
    | (go_at_call 5; (with_reducible refine k1.mono ?_); rintro e wa ⟨A, rfl, ev1, el1, ec1, ef1, hoA, hba⟩; (have hAe : Hid (A.vars = C.vars ∧ A.locks = C.locks ∧ A.chans = C.chans ∧ A.fns.map MFn.fn = C.fns.map MFn.fn) := ⟨ev1, el1, ec1, ef1⟩); clear ev1 el1 ec1 ef1; (have k2 := copy2_any C _ (((hC1.1.later (boxed wc (objP C))).later hba).later (boxed wa (objP A))) hCz.out); obtain ⟨q0, q1, q2, q3⟩ := (boxP_new wc C).later hba; (have hzc : wc.heap.size < wa.heap.size := ((boxP_new wc C).later hba).lt))
    | (go_at_call 5; (with_reducible refine k2.mono ?_); rintro e wb ⟨Bp, rfl, ev2, el2, ec2, ef2, hoB, hbb⟩; (have hBe : Hid (Bp.vars = C.vars ∧ Bp.locks = C.locks ∧ Bp.chans = C.chans ∧ Bp.fns.map MFn.fn = C.fns.map MFn.fn) := ⟨ev2, el2, ec2, ef2⟩); clear ev2 el2 ec2 ef2))
  obtain ⟨V, hV⟩ : ∃ V, V = wb.alloc (objP Bp) := ⟨_, rfl⟩
  have hbV : Below wb.heap.size wb V := by rw [hV]; exact boxed _ _
  have hboB : V.heap[wb.heap.size]? = some (objP Bp) := by rw [hV]; exact heap_alloc_new _ _
  have za : wc.heap.size + 1 ≤ wa.heap.size := by have := hba.size; rw [World.size_alloc] at this; exact this
  have zb : wa.heap.size + 1 ≤ wb.heap.size := by have := hbb.size; rw [World.size_alloc] at this; exact this
  have zV : wb.heap.size + 1 ≤ V.heap.size := by rw [hV, World.size_alloc]; omega
  have zc : w.heap.size + 1 ≤ wc.heap.size := by have := hbc.size; rw [World.size_alloc] at this; exact this
  have hkb : ∀ b, b < wa.heap.size + 1 → V.heap[b]? = (wa.alloc (objP A)).heap[b]? := fun b hlt => (hbV.block b (by omega)).trans (hbb.block b (by rw [World.size_alloc]; exact hlt))
  have hka : ∀ b, b < wa.heap.size → V.heap[b]? = wa.heap[b]? := fun b hlt => (hkb b (by omega)).trans ((boxed _ _).block b hlt)
  have hkc : ∀ b, b < wc.heap.size + 1 → V.heap[b]? = (wc.alloc (objP C)).heap[b]? := fun b hlt => (hka b (by omega)).trans (hba.block b (by rw [World.size_alloc]; exact hlt))
  have hkc' : ∀ b, b < wc.heap.size → V.heap[b]? = wc.heap[b]? := fun b hlt => (hkc b (by omega)).trans ((boxed _ _).block b hlt)
  have hboA : V.heap[wa.heap.size]? = some (objP A) := (hkb _ (by omega)).trans (heap_alloc_new _ _)
  have hboC : V.heap[wc.heap.size]? = some (objP C) := (hkc _ (by omega)).trans (heap_alloc_new _ _)
  have hboM : V.heap[w.heap.size]? = some (objP M) := (hkc' _ (by omega)).trans ((hbc.block _ (by rw [World.size_alloc]; omega)).trans hbMo.out)
  have hwV : Below w.heap.size w V := ⟨hbV.os.trans (hbb.os.trans (hba.os.trans hwc.os)), hbV.tape.trans (hbb.tape.trans (hba.tape.trans hwc.tape)), hbV.output.trans (hbb.output.trans (hba.output.trans hwc.output)), by omega, fun b hlt => (hkc' b (by omega)).trans (hwc.block b hlt)⟩
  have hoC : C.own V (w.heap.size + 1) := by
    have h := hcp.2.2.2.2.1
    rw [World.size_alloc] at h
    exact h.keep fun b hb => hkc' b (own_lt h b hb).2
  have hltC : ∀ b ∈ C.blocks, b < wc.heap.size := fun b hb => (own_lt hcp.2.2.2.2.1 b hb).2
  have hoA' : A.own V (wc.heap.size + 1) := by
    rw [World.size_alloc] at hoA
    exact hoA.keep fun b hb => hka b (own_lt hoA b hb).2
  have hltA : ∀ b ∈ A.blocks, b < wa.heap.size := fun b hb => (own_lt hoA b hb).2
  have hoB' : Bp.own V (wa.heap.size + 1) := by
    rw [World.size_alloc] at hoB
    exact hoB.keep fun b hb => hbV.block b (own_lt hoB b hb).2
  have hltB : ∀ b ∈ Bp.blocks, b < wb.heap.size := fun b hb => (own_lt hoB b hb).2
  have hCe : Hid (C.vars = M.vars ∧ C.locks = M.locks ∧ C.chans = M.chans ∧ C.fns.map MFn.fn = M.fns.map MFn.fn) := ⟨hcp.1, hcp.2.1, hcp.2.2.1, hcp.2.2.2.1⟩
  rw [← hV]
  clear hV hkb hka hkc hkc' hbV hbb hba hbc hwc hoA hoB hcp k1 k2 c1 bM hbMo hb hC1 q0 q1 q2 q3 hzc
  generalize wc.heap.size = Tc at *
  generalize wa.heap.size = Ta at *
  generalize wb.heap.size = Tb at *
  have hlM : ∀ X, Kp (w.heap.size + 1) (Ta + 1) V X → M.lies X ∧ BoxP X w.heap.size M ∧ Below w.heap.size w X := fun X K => by
    have hbX : Below w.heap.size w X := hwV.trans (K.be.mono (by omega))
    have h := (K.be.block w.heap.size (by omega)).trans hboM
    exact ⟨hlH.out.later hbX, ⟨whole_cell h 0 _ rfl, whole_cell h 1 _ rfl, whole_cell h 2 _ rfl, whole_cell h 3 _ rfl⟩, hbX⟩
  have hBl : ∀ X, Kp (w.heap.size + 1) (Ta + 1) V X → BoxP X Tb Bp ∧ Calls Try.prog 6 #[Bp.val, M.val] X (fun e w' => e = .returned (.bool true) ∧ Below X.heap.size X w') := fun X K => by
    have h := (K.keep Tb (by omega) (by omega)).trans hboB
    have ho : Bp.own X (Ta + 1) := hoB'.keep fun b hb => K.keep b (by have := hltB b hb; omega) (own_lt hoB' b hb).1
    have hL := own_lies (hlM X K).1 (hBe.out.1.trans hCe.out.1) (hBe.out.2.1.trans hCe.out.2.1) (hBe.out.2.2.1.trans hCe.out.2.2.1) (hBe.out.2.2.2.trans hCe.out.2.2.2) ho
    exact ⟨⟨whole_cell h 0 _ rfl, whole_cell h 1 _ rfl, whole_cell h 2 _ rfl, whole_cell h 3 _ rfl⟩, rsame_any Bp M X hL.1 (hlM X K).1 true (by simp [Hid, hL.2])⟩
  have hCl : ∀ X, Kp (Tc + 1) (Ta + 1) V X → BoxP X Tc C ∧ C.own X (w.heap.size + 1) ∧ Calls Try.prog 6 #[C.val, M.val] X (fun e w' => e = .returned (.bool true) ∧ Below X.heap.size X w') := fun X K => by
    have h := (K.be.block Tc (by omega)).trans hboC
    have ho : C.own X (w.heap.size + 1) := hoC.keep fun b hb => K.be.block b (by have := hltC b hb; omega)
    have hLM := (hlM X (K.low (by omega))).1
    have hL := own_lies hLM hCe.out.1 hCe.out.2.1 hCe.out.2.2.1 hCe.out.2.2.2 ho
    exact ⟨⟨whole_cell h 0 _ rfl, whole_cell h 1 _ rfl, whole_cell h 2 _ rfl, whole_cell h 3 _ rfl⟩, ho, rsame_any C M X hL.1 hLM true (by simp [Hid, hL.2])⟩
  have hKV : Kp (Tc + 1) (Ta + 1) V V := Kp.refl _ _ _
  have kA : Calls Try.prog 6 #[A.val, M.val] V (fun e w' => e = .returned (.bool true) ∧ Below V.heap.size V w') := by
    have hL := own_lies (hlM V (hKV.low (by omega))).1 (hAe.out.1.trans hCe.out.1) (hAe.out.2.1.trans hCe.out.2.1) (hAe.out.2.2.1.trans hCe.out.2.2.1) (hAe.out.2.2.2.trans hCe.out.2.2.2) hoA'
    exact rsame_any A M V hL.1 (hlM V (hKV.low (by omega))).1 true (by simp [Hid, hL.2])
  obtain ⟨m0, m1, m2, m3⟩ := (hlM V (hKV.low (by omega))).2.1
  have t0 := whole_cell hboA 0 _ rfl
  have t1 := whole_cell hboA 1 _ rfl
  have t2 := whole_cell hboA 2 _ rfl
  have t3 := whole_cell hboA 3 _ rfl
  have hAz : Hid A.sz := sz_of hCz.out hAe.out.1 hAe.out.2.2.1 hAe.out.2.2.2
  have hApos : ∀ X, Below V.heap.size V X → A.own X (Tc + 1) := fun X h => hoA'.keep fun b hb => h.block b (by have := hltA b hb; omega)
  have hlMH : Hid (∀ X, Kp (w.heap.size + 1) (Ta + 1) V X → M.lies X ∧ BoxP X w.heap.size M ∧ Below w.heap.size w X) := hlM
  have hBlH : Hid (∀ X, Kp (w.heap.size + 1) (Ta + 1) V X → BoxP X Tb Bp ∧ Calls Try.prog 6 #[Bp.val, M.val] X (fun e w' => e = .returned (.bool true) ∧ Below X.heap.size X w')) := hBl
  have hClH : Hid (∀ X, Kp (Tc + 1) (Ta + 1) V X → BoxP X Tc C ∧ C.own X (w.heap.size + 1) ∧ Calls Try.prog 6 #[C.val, M.val] X (fun e w' => e = .returned (.bool true) ∧ Below X.heap.size X w')) := hCl
  clear hlM hBl hCl hboM hboC hboB
  go_upto_region 7 with (first
    | (go_at_call 6; (with_reducible refine kA.mono ?_); rintro e w1 ⟨rfl, hb1⟩; (have K1 := hKV.below (by omega) hb1); obtain ⟨⟨b0, b1, b2, b3⟩, s1⟩ := hBlH.out w1 (K1.low (by omega)); clear m0 m1 m2 m3; obtain ⟨m0, m1, m2, m3⟩ := (hlMH.out w1 (K1.low (by omega))).2.1)
    | (go_at_call 6; (with_reducible refine s1.mono ?_); rintro e w2 ⟨rfl, hb2⟩; (have hV2 : Below V.heap.size V w2 := bthen hb1 hb2); (have a0 := cell_later hV2 t0); (have a1 := cell_later hV2 t1); (have a2 := cell_later hV2 t2); (have a3 := cell_later hV2 t3); (have sA := smear_any A w2 (Tc + 1) (hApos w2 hV2)))
    | (go_at_call 7; (with_reducible refine sA.mono ?_); rintro e w3 ⟨rfl, sm⟩))
  have hV3 : Kp (Tc + 1) (Ta + 1) V w3 := (hKV.below (by omega) hV2).sm (by omega) sm (fun b hb => by
    rcases List.mem_append.mp hb with q | q
    · have h1 := wet_bound (hApos w2 hV2) b q
      have h2 := wet_lt hltA q
      omega
    · have h1 := blk_lt (hApos w2 hV2).2.2.1 b q
      have h2 := hltA b (by unfold MPr.blocks; simp [q])
      omega)
  have hoA2 := hApos w2 hV2
  obtain ⟨L1, u1, n1⟩ := own_any sm hoA2.1 (fun g hg => List.mem_append.mpr (.inl (by unfold MPr.wet; simp [hg])))
  obtain ⟨L2, u2, n2⟩ := own_any sm hoA2.2.1 (fun g hg => List.mem_append.mpr (.inl (by unfold MPr.wet; simp [hg])))
  obtain ⟨L3, u3, n3⟩ := own_any sm hoA2.2.2.1 (fun g hg => List.mem_append.mpr (.inr hg))
  rw [List.length_map] at n1 n2 n3
  have N1 : Hid (L1.length = A.vars.length) := n1
  have N2 : Hid (L2.length = A.chans.length) := n2
  have N3 : Hid (L3.length = A.fns.length) := n3
  have hbv : ∀ b ∈ blk A.va, b < Ta := fun b hb => hltA b (by unfold MPr.blocks MPr.rest; simp [hb])
  have hbh : ∀ b ∈ blk A.cha, b < Ta := fun b hb => hltA b (by unfold MPr.blocks MPr.rest; simp [hb])
  have hbf : ∀ b ∈ blk A.fa, b < Ta := fun b hb => hltA b (by unfold MPr.blocks; simp [hb])
  have hT3 : w3.heap[Ta]? = some (objP A) := (sm.keep Ta (by have := hV2.size; omega) (fun hb => by
    rcases List.mem_append.mp hb with q | q
    · have h2 := wet_lt hltA q; omega
    · have h2 := hbf Ta q; omega)).trans ((hV2.block Ta (by omega)).trans hboA)
  have z3 : Ta < w3.heap.size := (Array.getElem?_eq_some_iff.mp hT3).1
  clear n1 n2 n3 sm hb1 hb2 K1 kA sA t0 t1 t2 t3 a0 a1 a2 a3 m0 m1 m2 m3 b0 b1 b2 b3 s1 hboA hoA2 hApos hKV hV2
  obtain ⟨iV, hiV, hzV, hsV, hbV⟩ := info_of infoV
  obtain ⟨iN, hiN, hzN, hsN, hbN⟩ := info_of infoN
  obtain ⟨iF, hiF, hzF, hsF, hbF⟩ := info_of infoF
  have hzT : Ta < w3.heap.size := (Array.getElem?_eq_some_iff.mp hT3).1
  have g0 := whole_cell hT3 0 _ rfl
  have g1 := whole_cell hT3 1 _ rfl
  have g2 := whole_cell hT3 2 _ rfl
  have g3 := whole_cell hT3 3 _ rfl
  have fz := fun o => whole_frozen hT3 o
  have hgo : Hid (OwnL (w3.alloc (.cells #[.bool false, .int .i64 5] 31)) (Tc + 1) 31 2 A.va A.vcap L1) := own_keep u1 fun b hb => (boxed _ _).block b (blk_lt u1 b hb).2
  have hrow : Hid (Rows (w3.alloc (.cells #[.bool false, .int .i64 5] 31)) 2 (some ⟨w3.heap.size, 0, none⟩) 1 [[Value.bool false, .int .i64 5]]) := rows_one (heap_alloc_new _ _) rfl
  have hbs : Hid (Tc + 1 ≤ (w3.alloc (.cells #[.bool false, .int .i64 5] 31)).heap.size) := by have := hV3.size; simp only [Hid, World.size_alloc]; omega
  have hn : Hid (Value.slice A.va A.vars.length A.vcap = Value.slice A.va (L1).length A.vcap) := by show _ = _; rw [N1.out]
  have hmx : Hid ((L1).length + 1 ≤ maxLen) := by show _ ≤ _; have := hAz.out.1; unfold reachBytes at this; rw [N1.out]; unfold maxLen; omega
  have hby : Hid (((L1).length + 1) * 16 ≤ 140737488355328) := by show _ ≤ _; have := hAz.out.1; unfold reachBytes at this; rw [N1.out]; omega
  go_upto_region 8 with (first
    | (at_builtin; (refine wpList_app rfl (.tmp 25) (.tmp 27) 22 rfl (Tc + 1) 31 iV _ 2 16 Try.underlying22 hiV hzV hsV hbV rfl (by decide) A.va A.vcap L1 hn.out hgo.out (some ⟨w3.heap.size, 0, none⟩) 1 [[Value.bool false, .int .i64 5]] rfl hrow.out (by intro r hr; simp only [List.mem_singleton] at hr; subst hr; rfl) (by intro r hr u hu; simp only [List.mem_singleton] at hr; subst hr; revert u; decide) (by have := hmx.out; simp only [List.length_singleton]; exact this) (by have := hby.out; simp only [List.length_singleton]; exact this) hbs.out ?_); intro va' vc' w4 ho4 hk4 hB4 hbl4; (have e4 : w4.heap[Ta]? = w3.heap[Ta]? := (hk4 Ta (by rw [World.size_alloc]; omega) (fun q => by have := hbv Ta q; omega)).trans ((boxed _ _).block Ta hzT)); (have y0 := cell_keep2 g0 e4); (have y1 := cell_keep2 g1 e4); (have y2 := cell_keep2 g2 e4); (have y3 := cell_keep2 g3 e4); (have yz : Ta < w4.heap.size := (Array.getElem?_eq_some_iff.mp (e4.trans hT3)).1); (have yf := fun o => whole_frozen (e4.trans hT3) o); clear e4; simp only [List.length_append, List.length_singleton] at ⊢))
  obtain ⟨K4, e5⟩ := app_keep hV3 (by omega) ⟨by omega, by omega⟩ (fun b hb => ⟨(blk_lt u1 b hb).1, by have := hbv b hb; omega⟩) hk4 (hB4.mono (Nat.zero_le _)) 0 (.slice va' (L1.length + 1) vc')
  have e4 : w4.heap[Ta]? = w3.heap[Ta]? := (hk4 Ta (by rw [World.size_alloc]; omega) (fun q => by have := hbv Ta q; omega)).trans ((boxed _ _).block Ta (Array.getElem?_eq_some_iff.mp hT3).1)
  have hT4 := set4 w4 Ta 0 _ _ (.slice va' (L1.length + 1) vc') (e4.trans hT3)
  have u2b := own_keep u2 fun b hb => e5 b (blk_lt u2 b hb).2 (own_apart u2 u1 (by decide) hb) (by have := hbh b hb; omega)
  have u3b := own_keep u3 fun b hb => e5 b (blk_lt u3 b hb).2 (own_apart u3 u1 (by decide) hb) (by have := hbf b hb; omega)
  simp only [List.setIfInBounds_toArray, List.set_cons_zero, List.set_cons_succ] at hT4
  clear e4 e5 hk4 hB4 hbl4 ho4 y0 y1 y2 y3 yz yf g0 g1 g2 g3 fz hgo hrow hbs hn hmx hby
  generalize w4.setCell ⟨Ta, 0, none⟩ (.slice va' (L1.length + 1) vc') = X1 at *
  rename Option Addr => va1
  rename Nat => vc1
  clear u1 u2 u3 hV3 hT3 z3 hzT
  have hzT : Ta < X1.heap.size := (Array.getElem?_eq_some_iff.mp hT4).1
  have g0 := whole_cell hT4 0 _ rfl
  have g1 := whole_cell hT4 1 _ rfl
  have g2 := whole_cell hT4 2 _ rfl
  have g3 := whole_cell hT4 3 _ rfl
  have fz := fun o => whole_frozen hT4 o
  have hgo : Hid (OwnL (X1.alloc (.cells #[.int .i64 5] 3)) (Tc + 1) 3 1 A.cha A.chcap L2) := own_keep u2b fun b hb => (boxed _ _).block b (blk_lt u2b b hb).2
  have hrow : Hid (Rows (X1.alloc (.cells #[.int .i64 5] 3)) 1 (some ⟨X1.heap.size, 0, none⟩) 1 [[Value.int .i64 5]]) := rows_one (heap_alloc_new _ _) rfl
  have hbs : Hid (Tc + 1 ≤ (X1.alloc (.cells #[.int .i64 5] 3)).heap.size) := by have := K4.size; simp only [Hid, World.size_alloc]; omega
  have hn : Hid (Value.slice A.cha A.chans.length A.chcap = Value.slice A.cha (L2).length A.chcap) := by show _ = _; rw [N2.out]
  have hmx : Hid ((L2).length + 1 ≤ maxLen) := by show _ ≤ _; have := hAz.out.2.1; unfold reachBytes at this; rw [N2.out]; unfold maxLen; omega
  have hby : Hid (((L2).length + 1) * 8 ≤ 140737488355328) := by show _ ≤ _; have := hAz.out.2.1; unfold reachBytes at this; rw [N2.out]; omega
  go_upto_region 9 with (first
    | (at_builtin; (refine wpList_app rfl (.tmp 31) (.tmp 32) 23 rfl (Tc + 1) 3 iN _ 1 8 Try.underlying23 hiN hzN hsN hbN rfl (by decide) A.cha A.chcap L2 hn.out hgo.out (some ⟨X1.heap.size, 0, none⟩) 1 [[Value.int .i64 5]] rfl hrow.out (by intro r hr; simp only [List.mem_singleton] at hr; subst hr; rfl) (by intro r hr u hu; simp only [List.mem_singleton] at hr; subst hr; revert u; decide) (by have := hmx.out; simp only [List.length_singleton]; exact this) (by have := hby.out; simp only [List.length_singleton]; exact this) hbs.out ?_); intro va' vc' w4 ho4 hk4 hB4 hbl4; (have e4 : w4.heap[Ta]? = X1.heap[Ta]? := (hk4 Ta (by rw [World.size_alloc]; omega) (fun q => by have := hbh Ta q; omega)).trans ((boxed _ _).block Ta hzT)); (have y0 := cell_keep2 g0 e4); (have y1 := cell_keep2 g1 e4); (have y2 := cell_keep2 g2 e4); (have y3 := cell_keep2 g3 e4); (have yz : Ta < w4.heap.size := (Array.getElem?_eq_some_iff.mp (e4.trans hT4)).1); (have yf := fun o => whole_frozen (e4.trans hT4) o); clear e4; simp only [List.length_append, List.length_singleton] at ⊢))
  obtain ⟨K5, e5⟩ := app_keep K4 (by omega) ⟨by omega, by omega⟩ (fun b hb => ⟨(blk_lt u2b b hb).1, by have := hbh b hb; omega⟩) hk4 (hB4.mono (Nat.zero_le _)) 2 (.slice va' (L2.length + 1) vc')
  have e4 : w4.heap[Ta]? = X1.heap[Ta]? := (hk4 Ta (by rw [World.size_alloc]; omega) (fun q => by have := hbh Ta q; omega)).trans ((boxed _ _).block Ta (Array.getElem?_eq_some_iff.mp hT4).1)
  have hT5 := set4 w4 Ta 2 _ _ (.slice va' (L2.length + 1) vc') (e4.trans hT4)
  have u3c := own_keep u3b fun b hb => e5 b (blk_lt u3b b hb).2 (own_apart u3b u2b (by decide) hb) (by have := hbf b hb; omega)
  simp only [List.setIfInBounds_toArray, List.set_cons_zero, List.set_cons_succ] at hT5
  clear e4 e5 hk4 hB4 hbl4 ho4 y0 y1 y2 y3 yz yf g0 g1 g2 g3 fz hgo hrow hbs hn hmx hby
  generalize w4.setCell ⟨Ta, 2, none⟩ (.slice va' (L2.length + 1) vc') = X2 at *
  rename Option Addr => va2
  rename Nat => vc2
  clear u2b u3b K4 hT4 hzT
  have hzT : Ta < X2.heap.size := (Array.getElem?_eq_some_iff.mp hT5).1
  have g0 := whole_cell hT5 0 _ rfl
  have g1 := whole_cell hT5 1 _ rfl
  have g2 := whole_cell hT5 2 _ rfl
  have g3 := whole_cell hT5 3 _ rfl
  have fz := fun o => whole_frozen hT5 o
  have hgo : Hid (OwnL (X2.alloc (.cells #[.int .i64 0, .int .i64 0, .slice none 0 0, .slice none 0 0] 35)) (Tc + 1) 35 4 A.fa A.fcap L3) := own_keep u3c fun b hb => (boxed _ _).block b (blk_lt u3c b hb).2
  have hrow : Hid (Rows (X2.alloc (.cells #[.int .i64 0, .int .i64 0, .slice none 0 0, .slice none 0 0] 35)) 4 (some ⟨X2.heap.size, 0, none⟩) 1 [[Value.int .i64 0, .int .i64 0, .slice none 0 0, .slice none 0 0]]) := rows_one (heap_alloc_new _ _) rfl
  have hbs : Hid (Tc + 1 ≤ (X2.alloc (.cells #[.int .i64 0, .int .i64 0, .slice none 0 0, .slice none 0 0] 35)).heap.size) := by have := K5.size; simp only [Hid, World.size_alloc]; omega
  have hn : Hid (Value.slice A.fa A.fns.length A.fcap = Value.slice A.fa (L3).length A.fcap) := by show _ = _; rw [N3.out]
  have hmx : Hid ((L3).length + 1 ≤ maxLen) := by show _ ≤ _; have := hAz.out.2.2.1; unfold reachBytes at this; rw [N3.out]; unfold maxLen; omega
  have hby : Hid (((L3).length + 1) * 64 ≤ 140737488355328) := by show _ ≤ _; have := hAz.out.2.2.1; unfold reachBytes at this; rw [N3.out]; omega
  go_upto_region 10 with (first
    | (at_builtin; (refine wpList_app rfl (.tmp 36) (.tmp 38) 24 rfl (Tc + 1) 35 iF _ 4 64 Try.underlying24 hiF hzF hsF hbF rfl (by decide) A.fa A.fcap L3 hn.out hgo.out (some ⟨X2.heap.size, 0, none⟩) 1 [[Value.int .i64 0, .int .i64 0, .slice none 0 0, .slice none 0 0]] rfl hrow.out (by intro r hr; simp only [List.mem_singleton] at hr; subst hr; rfl) (by intro r hr u hu; simp only [List.mem_singleton] at hr; subst hr; revert u; decide) (by have := hmx.out; simp only [List.length_singleton]; exact this) (by have := hby.out; simp only [List.length_singleton]; exact this) hbs.out ?_); intro va' vc' w4 ho4 hk4 hB4 hbl4; (have e4 : w4.heap[Ta]? = X2.heap[Ta]? := (hk4 Ta (by rw [World.size_alloc]; omega) (fun q => by have := hbf Ta q; omega)).trans ((boxed _ _).block Ta hzT)); (have y0 := cell_keep2 g0 e4); (have y1 := cell_keep2 g1 e4); (have y2 := cell_keep2 g2 e4); (have y3 := cell_keep2 g3 e4); (have yz : Ta < w4.heap.size := (Array.getElem?_eq_some_iff.mp (e4.trans hT5)).1); (have yf := fun o => whole_frozen (e4.trans hT5) o); clear e4; simp only [List.length_append, List.length_singleton] at ⊢))
  obtain ⟨K6, e5⟩ := app_keep K5 (by omega) ⟨by omega, by omega⟩ (fun b hb => ⟨(blk_lt u3c b hb).1, by have := hbf b hb; omega⟩) hk4 (hB4.mono (Nat.zero_le _)) 3 (.slice va' (L3.length + 1) vc')
  have e4 : w4.heap[Ta]? = X2.heap[Ta]? := (hk4 Ta (by rw [World.size_alloc]; omega) (fun q => by have := hbf Ta q; omega)).trans ((boxed _ _).block Ta (Array.getElem?_eq_some_iff.mp hT5).1)
  have hT6 := set4 w4 Ta 3 _ _ (.slice va' (L3.length + 1) vc') (e4.trans hT5)
  simp only [List.setIfInBounds_toArray, List.set_cons_zero, List.set_cons_succ] at hT6
  clear e4 e5 hk4 hB4 hbl4 ho4 y0 y1 y2 y3 yz yf g0 g1 g2 g3 fz hgo hrow hbs hn hmx hby
  generalize w4.setCell ⟨Ta, 3, none⟩ (.slice va' (L3.length + 1) vc') = X3 at *
  rename Option Addr => va3
  rename Nat => vc3
  clear u3c K5 hT5 hzT hT6
  obtain ⟨⟨q0, q1, q2, q3⟩, _, sC⟩ := hClH.out X3 K6
  obtain ⟨m0, m1, m2, m3⟩ := (hlMH.out X3 (K6.low (by omega))).2.1
  go_wp2_with (first
    | (go_at_call 6; (with_reducible refine sC.mono ?_); rintro e w5 ⟨rfl, hb5⟩; (have K7 := K6.below (by omega) hb5); obtain ⟨⟨b0, b1, b2, b3⟩, s5⟩ := hBlH.out w5 (K7.low (by omega)); clear m0 m1 m2 m3; obtain ⟨m0, m1, m2, m3⟩ := (hlMH.out w5 (K7.low (by omega))).2.1)
    | (go_at_call 6; (with_reducible refine s5.mono ?_); rintro e w6 ⟨rfl, hb6⟩; (have K8 := K7.below (by omega) hb6); clear q0 q1 q2 q3; obtain ⟨⟨q0, q1, q2, q3⟩, oC, _⟩ := hClH.out w6 K8; (have sM := smear_any C w6 (w.heap.size + 1) oC))
    | (go_at_call 7; (with_reducible refine sM.mono ?_); rintro e w7 ⟨rfl, sm⟩; (have K9 : Kp (w.heap.size + 1) (Ta + 1) V w7 := (K8.low (by omega)).sm (by omega) sm (fun b hb => by
        rcases List.mem_append.mp hb with q | q
        · have h1 := wet_bound oC b q
          have h2 := wet_lt hltC q
          omega
        · have h1 := blk_lt oC.2.2.1 b q
          have h2 := hltC b (by unfold MPr.blocks; simp [q])
          omega)); clear b0 b1 b2 b3 m0 m1 m2 m3; obtain ⟨⟨b0, b1, b2, b3⟩, s7⟩ := hBlH.out w7 K9; obtain ⟨m0, m1, m2, m3⟩ := (hlMH.out w7 K9).2.1)
    | (go_at_call 6; (with_reducible refine s7.mono ?_); rintro e w8 ⟨rfl, hb8⟩; (have K10 := K9.below (by omega) hb8)))
  go_ret
  exact ⟨rfl, (hlMH.out w8 K10).2.2⟩
end Go.Proofs.Ytaghfahhfockkaa.pg
