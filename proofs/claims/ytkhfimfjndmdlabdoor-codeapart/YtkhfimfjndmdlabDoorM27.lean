/- The contract of the document's own Right. -/
import Derived.Test.YtkhfimfjndmdlabDoorM26
import Derived.Test.YtkhfimfjndmdlabDoorM25
namespace Go.Proofs.YtkhfimfjndmdlabDoor.pg
open Go.ChangeShapes Go.WideShapes Go.ChangeAt Go.RowKit
set_option linter.unusedVariables false
set_option linter.unusedSimpArgs false
set_option maxRecDepth 100000
theorem rright_any (M : MPr) (w : World) (hl : M.lies w) (r : Bool) (hr : Hid (decide ((chk insR M.pr).1 = 0) = r)) :
    Calls Tryd.prog 4 #[M.val] w fun e w' => e = .returned (.bool r) ∧ Below w.heap.size w w' := by
  obtain ⟨a, b, c, hc⟩ : ∃ a b c, Hid (chk insR M.pr = (a, b, c)) := ⟨_, _, _, rfl⟩
  have hb := boxed w (objP M)
  have hcall := rcheck_any M _ (hl.later hb) a b c hc
  have hv : Hid (decide (a = 0) = r) := by rw [← hr.out, hc.out]; rfl
  clear hl hr hc
  go_enter Tryd.func4, Tryd.ntmps4
  by_cases h0 : a = 0
  · have hv2 : Hid (r = true) := hv.out.symm.trans (decide_eq_true h0)
    go_wp2_with (go_at_call 9; (with_reducible refine hcall.mono ?_); rintro e w2 ⟨rfl, hb2⟩)
    go_ret
    exact ⟨ret_b (by rw [hv2.out]), bthen (bthen hb hb2) (boxed _ _)⟩
  · have hv2 : Hid (r = false) := hv.out.symm.trans (decide_eq_false h0)
    go_wp2_with (go_at_call 9; (with_reducible refine hcall.mono ?_); rintro e w2 ⟨rfl, hb2⟩)
    go_ret
    exact ⟨ret_b (by rw [hv2.out]; simp [h0]), bthen (bthen hb hb2) (boxed _ _)⟩
end Go.Proofs.YtkhfimfjndmdlabDoor.pg
/- Two right programs have the same bytes just if they are the same. -/
namespace Go.Proofs.YtkhfimfjndmdlabDoor.pg
open Go.ChangeShapes Go.WideShapes Go.ChangeAt Go.RowKit
set_option linter.unusedVariables false
set_option linter.unusedSimpArgs false
set_option maxRecDepth 100000
theorem fl_ext {L M : List Nat} (hn : L.length = M.length) (h : ∀ i, i < L.length → fl L i = fl M i) : L = M := by
  refine List.ext_getElem hn fun i h1 h2 => ?_
  have := h i h1
  unfold fl at this
  rw [List.getD_eq_getElem?_getD, List.getD_eq_getElem?_getD, List.getElem?_eq_getElem h1, List.getElem?_eq_getElem h2] at this
  exact this
theorem same_full {P Q : Pr} (hP : prOkP P) (hQ : prOkP Q) : octet.sameB (fl (fullB P)) (fullB P).length (fl (fullB Q)) (fullB Q).length = true ↔ P = Q := by
  rw [octet.sameB_iff _ _ _ _ (fl_lt (full_bt P)) (fl_lt (full_bt Q))]
  constructor
  · rintro ⟨h1, h2⟩
    exact full_inj hP hQ (fl_ext h1 h2)
  · rintro rfl
    exact ⟨rfl, fun _ _ => rfl⟩
section
variable {w : World}
set_option maxHeartbeats 2000000 in
theorem apart_bad (M N : MPr) (hl : M.lies w) (hl2 : N.lies w) (hF : prog.Forms w) (hr : ¬ (chk insP M.pr).1 = 0) : Calls Tryd.prog 3 #[M.val, N.val] w fun e w' => e = .returned (.bool true) ∧ Below w.heap.size w w' := by
  have hb := boxed2 w (objP M) (objP N)
  have p0 := two_first w (objP M) (objP N)
  have p1 := two_second w (objP M) (objP N)
  have hrr : Hid (decide ((chk insR M.pr).1 = 0) = false) := by show decide _ = false; exact decide_eq_false (fun q => hr ((right_iff M.pr).mpr q))
  have c2 : ∀ wx, Below w.heap.size w wx → Calls Tryd.prog 4 #[M.val] wx _ := fun wx h => rright_any M wx (hl.later h) false hrr
  have c3 : ∀ wx, Below w.heap.size w wx → Calls Tryd.prog 5 #[] wx _ := fun wx h => speaks_any (hF.later h)
  clear hr hrr hF hl hl2
  go_enter Tryd.func3, Tryd.ntmps3
  go_wp2_with (first
    | (go_at_call 4; (with_reducible refine (c2 _ hb).mono ?_); rintro e w2 ⟨rfl, b2⟩; (have B2 := bthen hb b2))
    | (go_at_call 5; (with_reducible refine (c3 _ B2).mono ?_); rintro e w3 ⟨rfl, b3⟩; (have B3 := bthen B2 b3)))
  go_ret
  exact ⟨rfl, B3⟩
set_option maxHeartbeats 2000000 in
theorem apart_bad2 (M N : MPr) (hl : M.lies w) (hl2 : N.lies w) (hF : prog.Forms w) (hr : (chk insP M.pr).1 = 0) (hr2 : ¬ (chk insP N.pr).1 = 0) : Calls Tryd.prog 3 #[M.val, N.val] w fun e w' => e = .returned (.bool true) ∧ Below w.heap.size w w' := by
  have hb := boxed2 w (objP M) (objP N)
  have hz := two_size w (objP M) (objP N)
  have p0 := two_first w (objP M) (objP N)
  have p1 := two_second w (objP M) (objP N)
  have hrr : Hid (decide ((chk insR M.pr).1 = 0) = true) := by show decide _ = true; exact decide_eq_true ((right_iff M.pr).mp hr)
  have hrr2 : Hid (decide ((chk insR N.pr).1 = 0) = false) := by show decide _ = false; exact decide_eq_false (fun q => hr2 ((right_iff N.pr).mpr q))
  have c1 : ∀ wx, Below w.heap.size w wx → Calls Tryd.prog 4 #[M.val] wx _ := fun wx h => rright_any M wx (hl.later h) true hrr
  have c2 : ∀ wx, Below w.heap.size w wx → Calls Tryd.prog 4 #[N.val] wx _ := fun wx h => rright_any N wx (hl2.later h) false hrr2
  have c3 : ∀ wx, Below w.heap.size w wx → Calls Tryd.prog 5 #[] wx _ := fun wx h => speaks_any (hF.later h)
  clear hr hr2 hrr hrr2 hF hl hl2
  go_enter Tryd.func3, Tryd.ntmps3
  go_wp2_with (first
    | (go_at_call 4; (with_reducible refine (c1 _ hb).mono ?_); rintro e w1 ⟨rfl, b1⟩; (have B1 := bthen hb b1); (have q1 := (b1.block (w.heap.size + 1) (by rw [hz]; omega)).trans p1); (have r0 := whole_cell q1 0 _ rfl); (have r1 := whole_cell q1 1 _ rfl); (have r2 := whole_cell q1 2 _ rfl); (have r3 := whole_cell q1 3 _ rfl); (have rl := (Array.getElem?_eq_some_iff.mp q1).1); clear c1)
    | (go_at_call 4; (with_reducible refine (c2 _ B1).mono ?_); rintro e w2 ⟨rfl, b2⟩; (have B2 := bthen B1 b2))
    | (go_at_call 5; (with_reducible refine (c3 _ B2).mono ?_); rintro e w3 ⟨rfl, b3⟩; (have B3 := bthen B2 b3)))
  go_ret
  exact ⟨rfl, B3⟩
set_option maxHeartbeats 4000000 in
theorem apart_ok (M N : MPr) (hl : M.lies w) (hl2 : N.lies w) (hF : prog.Forms w) (hr : (chk insP M.pr).1 = 0) (hr2 : (chk insP N.pr).1 = 0) : Calls Tryd.prog 3 #[M.val, N.val] w fun e w' => e = .returned (.bool true) ∧ Below w.heap.size w w' := by
  have hb := boxed2 w (objP M) (objP N)
  have hz := two_size w (objP M) (objP N)
  have p0 := two_first w (objP M) (objP N)
  have p1 := two_second w (objP M) (objP N)
  have hok := right_mem hr hl
  have hok2 := right_mem hr2 hl2
  obtain ⟨b, c, hc⟩ : ∃ b c, Hid (chk insP M.pr = (0, b, c)) := ⟨_, _, by show _ = _; rw [← hr]⟩
  obtain ⟨b', c', hc'⟩ : ∃ b c, Hid (chk insP N.pr = (0, b, c)) := ⟨_, _, by show _ = _; rw [← hr2]⟩
  have hrr : Hid (decide ((chk insR M.pr).1 = 0) = true) := by show decide _ = true; exact decide_eq_true ((right_iff M.pr).mp hr)
  have hrr2 : Hid (decide ((chk insR N.pr).1 = 0) = true) := by show decide _ = true; exact decide_eq_true ((right_iff N.pr).mp hr2)
  obtain ⟨s, hs⟩ : ∃ s : Bool, Hid (s = true ↔ M.pr = N.pr) := by
    by_cases h : M.pr = N.pr
    · exact ⟨true, fun _ => h, fun _ => rfl⟩
    · exact ⟨false, (fun q => by cases q), fun q => absurd q h⟩
  have hsb : octet.sameB (fl (fullB M.pr)) (fullB M.pr).length (fl (fullB N.pr)) (fullB N.pr).length = s := by
    have h1 := same_full hok hok2
    cases hq : octet.sameB (fl (fullB M.pr)) (fullB M.pr).length (fl (fullB N.pr)) (fullB N.pr).length with
    | true => exact (hs.out.mpr (h1.mp hq)).symm
    | false =>
      cases hss : s with
      | false => rfl
      | true => rw [h1.mpr (hs.out.mp hss)] at hq; exact hq.symm
  obtain ⟨n, hn⟩ : ∃ n, Hid ((fullB M.pr).length = n) := ⟨_, rfl⟩
  obtain ⟨L, hL⟩ : ∃ L, Hid (fullB M.pr = L) := ⟨_, rfl⟩
  obtain ⟨n', hn'⟩ : ∃ n, Hid ((fullB N.pr).length = n) := ⟨_, rfl⟩
  obtain ⟨L', hL'⟩ : ∃ L, Hid (fullB N.pr = L) := ⟨_, rfl⟩
  have c1 : ∀ wx, Below w.heap.size w wx → Calls Tryd.prog 4 #[M.val] wx _ := fun wx h => rright_any M wx (hl.later h) true hrr
  have c2 : ∀ wx, Below w.heap.size w wx → Calls Tryd.prog 4 #[N.val] wx _ := fun wx h => rright_any N wx (hl2.later h) true hrr2
  have c3 : ∀ wx, Below w.heap.size w wx → Calls Tryd.prog 5 #[] wx _ := fun wx h => speaks_any (hF.later h)
  have c4 : ∀ wx, Below w.heap.size w wx → Calls Tryd.prog 6 #[M.val] wx fun e w' => ∃ va vc, e = .returned (.tuple #[.slice va n vc, .int .i64 0]) ∧ Rows w' 1 va vc (L.map u8c) ∧ (∀ b ∈ blk va, b < w'.heap.size) ∧ Below wx.heap.size wx w' := fun wx h => by
    rw [← hL.out]
    exact encode_full M (hl.later h) (hF.later h) M.pr rfl b c hc.out n hn.out
  have c5 : ∀ wx, Below w.heap.size w wx → Calls Tryd.prog 6 #[N.val] wx fun e w' => ∃ va vc, e = .returned (.tuple #[.slice va n' vc, .int .i64 0]) ∧ Rows w' 1 va vc (L'.map u8c) ∧ (∀ b ∈ blk va, b < w'.heap.size) ∧ Below wx.heap.size wx w' := fun wx h => by
    rw [← hL'.out]
    exact encode_full N (hl2.later h) (hF.later h) N.pr rfl b' c' hc'.out n' hn'.out
  have c6 : ∀ wx va vc va' vc', Rows wx 1 va vc (L.map u8c) → Rows wx 1 va' vc' (L'.map u8c) → Calls Tryd.prog 7 #[.slice va n vc, .slice va' n' vc'] wx fun e w' => e = .returned (.bool s) ∧ w' = wx := fun wx va vc va' vc' h1 h2 => by
    have h3 := rows_row (L := fullB M.pr) (by rw [hL.out]; exact h1) (full_bt M.pr)
    have h4 := rows_row (L := fullB N.pr) (by rw [hL'.out]; exact h2) (full_bt N.pr)
    rw [hn.out] at h3 hsb
    rw [hn'.out] at h4 hsb
    exact octet.same_any va va' n n' vc vc' _ _ wx h3 h4 s hsb
  have c7 : ∀ wx, Below w.heap.size w wx → Calls Tryd.prog 8 #[M.val, N.val] wx _ := fun wx h => rsame_any M N wx (hl.later h) (hl2.later h) s hs
  have hzH : Hid _ := hz
  clear hr hr2 hrr hrr2 hF hl hl2 hok hok2 hc hc' hsb hs hn hL hn' hL' hz
  go_enter Tryd.func3, Tryd.ntmps3
  go_wp2_with (first
    | (go_at_call 4; (with_reducible refine (c1 _ hb).mono ?_); rintro e w1 ⟨rfl, b1⟩; (have B1 := bthen hb b1); (have q1 := (b1.block (w.heap.size + 1) (by rw [hzH.out]; omega)).trans p1); (have q0 := (b1.block w.heap.size (by rw [hzH.out]; omega)).trans p0); (have r0 := whole_cell q1 0 _ rfl); (have r1 := whole_cell q1 1 _ rfl); (have r2 := whole_cell q1 2 _ rfl); (have r3 := whole_cell q1 3 _ rfl); (have rl := (Array.getElem?_eq_some_iff.mp q1).1); (have ql : Hid (w.heap.size < w1.heap.size) := (Array.getElem?_eq_some_iff.mp q0).1); clear c1)
    | (go_at_call 4; (with_reducible refine (c2 _ B1).mono ?_); rintro e w2 ⟨rfl, b2⟩; (have B2 := bthen B1 b2); (have s1 := (b2.block (w.heap.size + 1) rl).trans q1); (have s0 := (b2.block w.heap.size ql.out).trans q0); clear r0 r1 r2 r3; (have t0 := whole_cell s0 0 _ rfl); (have t1 := whole_cell s0 1 _ rfl); (have t2 := whole_cell s0 2 _ rfl); (have t3 := whole_cell s0 3 _ rfl); (have tl := (Array.getElem?_eq_some_iff.mp s0).1); clear c2)
    | (go_at_call 6; (with_reducible refine (c4 _ B2).mono ?_); rintro e w3 ⟨va, vc, rfl, hR3, _, b3⟩; (have B3 := bthen B2 b3); (have hR3H : Hid (Rows w3 1 va vc (L.map u8c)) := hR3); clear hR3 t0 t1 t2 t3; (have v1 := (b3.block (w.heap.size + 1) (Array.getElem?_eq_some_iff.mp s1).1).trans s1); (have v0 := (b3.block w.heap.size tl).trans s0); (have t0 := whole_cell v1 0 _ rfl); (have t1 := whole_cell v1 1 _ rfl); (have t2 := whole_cell v1 2 _ rfl); (have t3 := whole_cell v1 3 _ rfl); (have tl2 := (Array.getElem?_eq_some_iff.mp v1).1); clear c4)
    | (go_at_call 6; (with_reducible refine (c5 _ B3).mono ?_); rintro e w4 ⟨va', vc', rfl, hR4, _, b4⟩; (have B4 := bthen B3 b4); (have hR4H : Hid (Rows w4 1 va' vc' (L'.map u8c)) := hR4); (have hR5H : Hid (Rows w4 1 va vc (L.map u8c)) := hR3H.out.later b4); clear hR4 t0 t1 t2 t3; (have x1 := (b4.block (w.heap.size + 1) tl2).trans v1); (have x0 := (b4.block w.heap.size (Array.getElem?_eq_some_iff.mp v0).1).trans v0); clear c5))
  have x1l := (Array.getElem?_eq_some_iff.mp x1).1
  have x0l := (Array.getElem?_eq_some_iff.mp x0).1
  clear q0 q1 s0 s1 v0 v1 p0 p1 hR3H ql tl2
  have hBW := B4
  generalize w4 = W at *
  have keepS : ∀ w', Below W.heap.size W w' → (w'.cell? ⟨w.heap.size, 0, none⟩ = some (.slice M.va M.vars.length M.vcap) ∧ w'.cell? ⟨w.heap.size, 1, none⟩ = some (.int .i64 M.locks) ∧ w'.cell? ⟨w.heap.size, 2, none⟩ = some (.slice M.cha M.chans.length M.chcap) ∧ w'.cell? ⟨w.heap.size, 3, none⟩ = some (.slice M.fa M.fns.length M.fcap) ∧ w'.cell? ⟨w.heap.size + 1, 0, none⟩ = some (.slice N.va N.vars.length N.vcap) ∧ w'.cell? ⟨w.heap.size + 1, 1, none⟩ = some (.int .i64 N.locks) ∧ w'.cell? ⟨w.heap.size + 1, 2, none⟩ = some (.slice N.cha N.chans.length N.chcap) ∧ w'.cell? ⟨w.heap.size + 1, 3, none⟩ = some (.slice N.fa N.fns.length N.fcap) ∧ Below W.heap.size W w') := fun w' hb => by
    have y0 := (hb.block w.heap.size x0l).trans x0
    have y1 := (hb.block (w.heap.size + 1) x1l).trans x1
    exact ⟨whole_cell y0 0 _ rfl, whole_cell y0 1 _ rfl, whole_cell y0 2 _ rfl, whole_cell y0 3 _ rfl, whole_cell y1 0 _ rfl, whole_cell y1 1 _ rfl, whole_cell y1 2 _ rfl, whole_cell y1 3 _ rfl, hb⟩
  have keepH : Hid (∀ w', (w'.cell? ⟨w.heap.size, 0, none⟩ = some (.slice M.va M.vars.length M.vcap) ∧ w'.cell? ⟨w.heap.size, 1, none⟩ = some (.int .i64 M.locks) ∧ w'.cell? ⟨w.heap.size, 2, none⟩ = some (.slice M.cha M.chans.length M.chcap) ∧ w'.cell? ⟨w.heap.size, 3, none⟩ = some (.slice M.fa M.fns.length M.fcap) ∧ w'.cell? ⟨w.heap.size + 1, 0, none⟩ = some (.slice N.va N.vars.length N.vcap) ∧ w'.cell? ⟨w.heap.size + 1, 1, none⟩ = some (.int .i64 N.locks) ∧ w'.cell? ⟨w.heap.size + 1, 2, none⟩ = some (.slice N.cha N.chans.length N.chcap) ∧ w'.cell? ⟨w.heap.size + 1, 3, none⟩ = some (.slice N.fa N.fns.length N.fcap) ∧ Below W.heap.size W w') → Below W.heap.size W w') := fun w' h => h.2.2.2.2.2.2.2.2
  go_region_held3 (fun w' => w'.cell? ⟨w.heap.size, 0, none⟩ = some (.slice M.va M.vars.length M.vcap) ∧ w'.cell? ⟨w.heap.size, 1, none⟩ = some (.int .i64 M.locks) ∧ w'.cell? ⟨w.heap.size, 2, none⟩ = some (.slice M.cha M.chans.length M.chcap) ∧ w'.cell? ⟨w.heap.size, 3, none⟩ = some (.slice M.fa M.fns.length M.fcap) ∧ w'.cell? ⟨w.heap.size + 1, 0, none⟩ = some (.slice N.va N.vars.length N.vcap) ∧ w'.cell? ⟨w.heap.size + 1, 1, none⟩ = some (.int .i64 N.locks) ∧ w'.cell? ⟨w.heap.size + 1, 2, none⟩ = some (.slice N.cha N.chans.length N.chcap) ∧ w'.cell? ⟨w.heap.size + 1, 3, none⟩ = some (.slice N.fa N.fns.length N.fcap) ∧ Below W.heap.size W w') ((refine keepS _ ?_; repeat (first | exact keepH.out _ (by assumption) | assumption | exact Below.refl _ _ | refine Below.drew ?_)))
    (first | (go_at_call 7; refine (c6 _ _ _ _ _ (hR5H.out.later (by first | exact keepH.out _ (by assumption) | assumption | exact Below.refl _ _ | exact (Below.refl _ _).drew)) (hR4H.out.later (by first | exact keepH.out _ (by assumption) | assumption | exact Below.refl _ _ | exact (Below.refl _ _).drew))).mono ?_; rintro e w5 ⟨rfl, hw5⟩; replace hw5 := hw5.symm; subst hw5) | (go_at_call 8; refine (c7 _ (bthen hBW (by first | exact keepH.out _ (by assumption) | assumption | exact Below.refl _ _ | exact (Below.refl _ _).drew))).mono ?_; rintro e w6 ⟨rfl, b6⟩; have hB6 : Below W.heap.size W w6 := bthen (by first | exact keepH.out _ (by assumption) | assumption | exact Below.refl _ _ | exact (Below.refl _ _).drew) b6) | (go_at_call 5; refine (c3 _ (bthen hBW (by first | exact keepH.out _ (by assumption) | assumption | exact Below.refl _ _ | exact (Below.refl _ _).drew))).mono ?_; rintro e w7 ⟨rfl, b7⟩; have hB7 : Below W.heap.size W w7 := bthen (by first | exact keepH.out _ (by assumption) | assumption | exact Below.refl _ _ | exact (Below.refl _ _).drew) b7))
  all_goals go_wp2
  all_goals go_ret
  all_goals exact ⟨by first | rfl | (cases s <;> rfl), bthen hBW hB7⟩
end
end Go.Proofs.YtkhfimfjndmdlabDoor.pg
