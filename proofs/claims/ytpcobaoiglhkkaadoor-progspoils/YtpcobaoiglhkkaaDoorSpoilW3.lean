/- ProgSpoils, walked: case 3 of its four. -/
import Derived.Test.YtpcobaoiglhkkaaDoorSpoil3
namespace Go.Proofs.YtpcobaoiglhkkaaDoor.pg
open Go.ChangeShapes Go.WideShapes Go.ChangeAt Go.RowKit
set_option linter.unusedVariables false
set_option linter.unusedSimpArgs false
set_option maxRecDepth 100000
set_option maxHeartbeats 4000000 in
theorem spoils_3 (M : MPr) (a1 a2 : Int) (U V : Nat) (w : World) (hl : M.lies w) (hF : prog.Forms w) (h0 : (chk insP M.pr).1 = 0) (hU1 : IntKind.u64.wrap a1 = (U : Int)) (hU : Hid (U < 18446744073709551616)) (hV1 : IntKind.u64.wrap a2 = (V : Int)) (hq : (V : Int).tmod 4 = 3) :
    Calls Tryd.prog 5 #[M.val, .int .i64 a1, .int .i64 a2] w fun e w' => e = .returned (.bool true) ∧ Below w.heap.size w w' := by
  obtain ⟨b, c, hc⟩ : ∃ b c, Hid (chk insP M.pr = (0, b, c)) := ⟨(chk insP M.pr).2.1, (chk insP M.pr).2.2, by show chk insP M.pr = _; rw [← h0]⟩
  have hrr : Hid (decide ((chk insR M.pr).1 = 0) = true) := by simp [Hid, (right_iff M.pr).mp h0]
  have hz := sz_of_right h0
  have hb := boxed w (objP M)
  have bP := boxP_new w M
  have c1 := check_any M _ (hl.later hb) (hF.later hb) 0 b c hc
  have c2 : ∀ wx, Below w.heap.size w wx → Calls Tryd.prog 21 #[M.val] wx _ := fun wx h => rright_any M wx (hl.later h) true hrr
  have c3 : ∀ wx, Below w.heap.size w wx → Calls Tryd.prog 22 #[M.val] wx _ := fun wx h => copy_any M wx (hl.later h) hz
  have H0 : Hid ((chk insP M.pr).1 = 0) := h0
  clear h0 hrr
  go_enter Tryd.func5, Tryd.ntmps5
  go_wp2_with (first
    | (go_at_call 20; (with_reducible refine c1.mono ?_); rintro e w2 ⟨rfl, hb2⟩; obtain ⟨p0, p1, p2, p3⟩ := bP.later (bthen hb2 (boxed w2 (.cells #[.int .i64 b, .int .i64 c] 41))); (have hw2 := bthen hb hb2))
    | (go_at_call 21; (with_reducible refine (c2 _ (bthen hw2 (boxed _ _))).mono ?_); rintro e w3 ⟨rfl, hb3⟩; (have hw3 := bthen (bthen hw2 (boxed _ _)) hb3); clear p0 p1 p2 p3; obtain ⟨p0, p1, p2, p3⟩ := bP.later (bthen (bthen hb2 (boxed _ _)) hb3)))
  refine (c3 _ hw3).mono ?_
  rintro e w4 ⟨N, rfl, hcp, hb4⟩
  have hw4 := bthen hw3 hb4
  clear p0 p1 p2 p3
  obtain ⟨f, pc, g, D, F, x, K⟩ := facts hcp hl H0.out U hU.out
  have hFm := List.mem_of_getElem? K.hF
  obtain ⟨bx, ox, hix, _, d0, d1, d2, d3⟩ := fn_ix K.lies.2.2.1 f F K.hF
  have hrows := (K.lies.2.2.2.2.2.2 F hFm).1
  have xw := (K.lies.2.2.2.2.2.2 F hFm).2.2.1 x (List.mem_of_getElem? K.hx)
  have fw := (K.lies.2.2.2.2.2.2 F hFm).2.2.2.2
  rw [K.ha] at d2 hrows
  obtain ⟨hiy, k0, k1, k2, k3, k4⟩ := ins_at0 hrows pc x K.hx
  obtain ⟨w5, hw5, n1, n2, n3, n4⟩ := five (.int .i64 42) (.int .i64 F.code.length) (.int .i64 0) (.int .i64 0) (.int .i64 0) k0 k1 k2 k3 k4
  have hP := put_lies K.own K.nd K.lies K.hF K.hpc (i := ⟨42, F.code.length, 0, 0, 0⟩) ⟨(by show I64 42; unfold I64; omega), (by have := K.clen; show I64 (F.code.length : Int); unfold I64; omega), (by show I64 0; unfold I64; omega), (by show I64 0; unfold I64; omega), (by show I64 0; unfold I64; omega)⟩ K.ha (Nat.le_of_eq n4.symm) n3 n1 n2
  have hwg : w.heap.size ≤ g := Nat.le_trans hw3.size K.glo
  have hbw5 : Below w.heap.size w w5 := by rw [hw5]; exact ((((((bthen hw4 (boxed _ _)).setCell hwg _).setCell hwg _).setCell hwg _).setCell hwg _).setCell hwg _)
  have c4 := check_any _ w5 hP (hF.later hbw5) 38 f pc (by show chk insP (MPr.pr _) = _; rw [put_pr]; exact spoil K.right (by simp [MPr.pr, K.hF]) K.hpc (by decide) (by simp [insP, insE, fst4, opndE, lt, formOf, known, unused, inR, MFn.fn]))
  have vb : w5.heap[w4.heap.size]? = some (objP N) := (n3 _ (by have := K.sep; rw [World.size_alloc] at this; omega)).trans (heap_alloc_new w4 _)
  have q0 := whole_cell vb 0 _ rfl
  have q1 := whole_cell vb 1 _ rfl
  have q2 := whole_cell vb 2 _ rfl
  have q3 := whole_cell vb 3 _ rfl
  rw [hw5] at q0 q1 q2 q3
  rw [put_val, hw5] at c4
  rw [hw5] at hbw5
  have e1 := K.e1
  have e2 := K.e2
  have e3 := K.e3
  have e4 := K.e4
  have e5 := K.e5
  have e6 := K.e6
  have e7 := K.e7
  have e8 := K.e8
  have e9 := K.e9
  have e10 := K.e10
  have z0 := K.fz (pc * 5)
  have z1 := K.fz (pc * 5 + 1)
  have z2 := K.fz (pc * 5 + 2)
  have z3 := K.fz (pc * 5 + 3)
  have z4 := K.fz (pc * 5 + 4)
  have fw1 := fw.2
  have fcl := K.clen
  clear K vb hP hw5 n1 n2 n3 n4 xw fw hrows hcp hFm
  go_wp2_with (first
    | (go_at_call 20; (with_reducible refine c4.mono ?_); rintro e w6 ⟨rfl, hb6⟩; (have hw6 := bthen hbw5 hb6)))
  go_ret
  exact ⟨rfl, bthen hw6 (boxed _ _)⟩
end Go.Proofs.YtpcobaoiglhkkaaDoor.pg
