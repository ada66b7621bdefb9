/- What a select's cases read and set: the contract of package prog's touchedBySelect. -/
import Derived.Test.YtaghfahhfockkaaDoorMarks
import Derived.Test.YtaghfahhfockkaaDoorSetSelf
import Derived.BigRegion
import Derived.ChangeAlike
namespace Go.Proofs.YtaghfahhfockkaaDoor.pg
open Go.ChangeShapes Go.WideShapes Go.ChangeAt Go.RowKit
set_option linter.unusedVariables false
set_option linter.unusedSimpArgs false
set_option maxRecDepth 100000
/-- A box of marks. -/
abbrev marksA (m : Nat → Bool) : Array Value := #[.bool (m 0), .bool (m 1), .bool (m 2), .bool (m 3), .bool (m 4), .bool (m 5), .bool (m 6), .bool (m 7)]
abbrev objM (m : Nat → Bool) : Obj := .cells (marksA m) 54
theorem inl_num (l : List Int) (x n : Nat) : inl (l ++ [(x : Int)]) n = (inl l n || decide (n = x)) := by
  rw [inl_snoc]; congr 1; exact decide_eq_decide.mpr (by omega)
theorem marks_store (l : List Int) (x : Nat) (hx : x < 8) : (marksA (inl l)).setIfInBounds x (.bool true) = marksA (inl (l ++ [(x : Int)])) := by
  have h8 : x = 0 ∨ x = 1 ∨ x = 2 ∨ x = 3 ∨ x = 4 ∨ x = 5 ∨ x = 6 ∨ x = 7 := by omega
  simp only [marksA, inl_num]
  rcases h8 with rfl | rfl | rfl | rfl | rfl | rfl | rfl | rfl <;> simp
def MBox (w : World) (B : Nat) (l : List Int) : Prop := w.heap[B]? = some (objM (inl l))
theorem MBox.cell {w : World} {B : Nat} {l : List Int} (h : MBox w B l) (x : Nat) (hx : x < 8) : w.cell? ⟨B, x, none⟩ = some (.bool (inl l x)) := by
  have h8 : x = 0 ∨ x = 1 ∨ x = 2 ∨ x = 3 ∨ x = 4 ∨ x = 5 ∨ x = 6 ∨ x = 7 := by omega
  rw [World.cell?]
  simp only [show w.heap[B]? = some (objM (inl l)) from h]
  rcases h8 with rfl | rfl | rfl | rfl | rfl | rfl | rfl | rfl <;> rfl
theorem MBox.free {w : World} {B : Nat} {l : List Int} (h : MBox w B l) (x : Nat) : w.frozen? ⟨B, x, none⟩ = false := by
  simp [World.frozen?, show w.heap[B]? = some (objM (inl l)) from h]
theorem MBox.put {w : World} {B : Nat} {l : List Int} (h : MBox w B l) (x : Nat) (hx : x < 8) : MBox (w.setCell ⟨B, x, none⟩ (.bool true)) B (l ++ [(x : Int)]) := by
  unfold MBox
  rw [heap_setCell_same w B x _ _ _ h, marks_store l x hx]
theorem MBox.keep {w w' : World} {B : Nat} {l : List Int} (h : MBox w B l) (hk : w'.heap[B]? = w.heap[B]?) : MBox w' B l := hk.trans h
theorem MBox.lt {w : World} {B : Nat} {l : List Int} (h : MBox w B l) : B < w.heap.size := (Array.getElem?_eq_some_iff.mp h).1
theorem MBox.later {w w' : World} {B : Nat} {l : List Int} (h : MBox w B l) (hb : Below w.heap.size w w') : MBox w' B l := h.keep (hb.block B h.lt)
theorem mark_at (B x : Nat) (hx : x < 8) : ∀ wx, (Instr.indexAt 54 (.pointer (some ⟨B, 0, none⟩)) (.int .i64 (x : Int))).run Tryd.prog wx = .ok (.pointer (some ⟨B, x, none⟩)) wx := by
  intro wx
  rw [run_indexAt_array _ _ _ _ _ (show Tryd.prog.underlying 54 = some (.array (Tryd.prog.arrayLen 54) (Tryd.prog.elem 54)) by kernel_rfl)]
  rw [show Tryd.prog.arrayLen 54 = 8 by kernel_rfl, show Tryd.prog.elem 54 = 4 by kernel_rfl, if_pos (by omega), Tryd.sizeOf4 wx]
  show Result.ok (Value.pointer (some ((⟨B, 0, none⟩ : Addr).add ((x : Int).toNat * 1)))) wx = _
  rw [add_none]
  simp
def sndL (l : List Cas) : List Int := (l.filter fun c => c.send).map Cas.reg
def tkL (l : List Cas) : List Int := (l.filter fun c => !c.send && decide (c.reg ≠ -1)).map Cas.reg
theorem snd_yes (l : List Cas) (k : Nat) (c : Cas) (h : l[k]? = some c) (hs : c.send = true) : sndL (l.take (k + 1)) = sndL (l.take k) ++ [c.reg] ∧ tkL (l.take (k + 1)) = tkL (l.take k) := by
  rw [take_one l k c h]; simp [sndL, tkL, List.filter_append, List.filter_cons, hs]
theorem snd_no (l : List Cas) (k : Nat) (c : Cas) (h : l[k]? = some c) (hs : c.send = false) (hr : ¬ c.reg = -1) : sndL (l.take (k + 1)) = sndL (l.take k) ∧ tkL (l.take (k + 1)) = tkL (l.take k) ++ [c.reg] := by
  rw [take_one l k c h]; simp [sndL, tkL, List.filter_append, List.filter_cons, hs, hr]
theorem snd_none (l : List Cas) (k : Nat) (c : Cas) (h : l[k]? = some c) (hs : c.send = false) (hr : c.reg = -1) : sndL (l.take (k + 1)) = sndL (l.take k) ∧ tkL (l.take (k + 1)) = tkL (l.take k) := by
  rw [take_one l k c h]; simp [sndL, tkL, List.filter_append, List.filter_cons, hs, hr]
structure TSt (s : MSel) (w : World) (k : Nat) (wr : World) : Prop where
  be : Below w.heap.size w wr
  b1 : MBox wr (w.heap.size + 1) (sndL (s.cases.take k))
  b2 : MBox wr (w.heap.size + 1 + 1) (tkL (s.cases.take k))
theorem tst_start (s : MSel) (w : World) (o : Obj) : TSt s w 0 (((w.alloc o).alloc (objM (inl []))).alloc (objM (inl []))) := by
  refine ⟨boxed3 w _ _ _, ?_, ?_⟩
  · exact MBox.later (l := []) (by unfold MBox; have := heap_alloc_new (w.alloc o) (objM (inl [])); rwa [World.size_alloc] at this) (boxed _ _)
  · show MBox _ _ []
    unfold MBox; have := heap_alloc_new ((w.alloc o).alloc (objM (inl []))) (objM (inl [])); simpa only [World.size_alloc] using this
theorem tst_same {s : MSel} {w wr : World} {k : Nat} (st : TSt s w k wr) (o : Obj) (h1 : sndL (s.cases.take (k + 1)) = sndL (s.cases.take k)) (h2 : tkL (s.cases.take (k + 1)) = tkL (s.cases.take k)) : TSt s w (k + 1) (wr.alloc o) :=
  ⟨bthen st.be (boxed _ _), by rw [h1]; exact st.b1.later (boxed _ _), by rw [h2]; exact st.b2.later (boxed _ _)⟩
theorem tst_one {s : MSel} {w wr : World} {k x : Nat} (st : TSt s w k wr) (o : Obj) (hx : x < 8) (h1 : sndL (s.cases.take (k + 1)) = sndL (s.cases.take k) ++ [(x : Int)]) (h2 : tkL (s.cases.take (k + 1)) = tkL (s.cases.take k)) :
    TSt s w (k + 1) ((wr.setCell ⟨w.heap.size + 1, x, none⟩ (.bool true)).alloc o) :=
  ⟨bthen (st.be.setCell (Nat.le_succ _) _) (boxed _ _), by rw [h1]; exact (st.b1.put x hx).later (boxed _ _), by rw [h2]; exact (st.b2.keep (heap_setCell_other _ _ _ _ (by show w.heap.size + 1 + 1 ≠ w.heap.size + 1; omega))).later (boxed _ _)⟩
theorem tst_two {s : MSel} {w wr : World} {k x : Nat} (st : TSt s w k wr) (o : Obj) (hx : x < 8) (h1 : sndL (s.cases.take (k + 1)) = sndL (s.cases.take k)) (h2 : tkL (s.cases.take (k + 1)) = tkL (s.cases.take k) ++ [(x : Int)]) :
    TSt s w (k + 1) ((wr.setCell ⟨w.heap.size + 1 + 1, x, none⟩ (.bool true)).alloc o) :=
  ⟨bthen (st.be.setCell (le2 _) _) (boxed _ _), by rw [h1]; exact (st.b1.keep (heap_setCell_other _ _ _ _ (by show w.heap.size + 1 ≠ w.heap.size + 1 + 1; omega))).later (boxed _ _), by rw [h2]; exact (st.b2.put x hx).later (boxed _ _)⟩
set_option maxHeartbeats 4000000 in
theorem bySelect_any (s : MSel) (w : World) (hl : s.lies w) (hr : ∀ c ∈ s.cases, (0 ≤ c.reg ∧ c.reg < 8) ∨ c.reg = -1 ∧ c.send = false) :
    Calls Tryd.prog 39 #[s.val] w fun e w' => e = .returned (.tuple #[marksV (inl (sndL s.cases)), marksV (inl (tkL s.cases))]) ∧ Below w.heap.size w w' := by
  have hst := tst_start s w (.cells #[.slice s.at_ s.cases.length s.cap, .int .i64 s.els] 62)
  go_enter Tryd.func39, Tryd.ntmps39
  go_wp2_with fail
  generalize hW : ((w.alloc (Obj.cells #[Value.slice s.at_ s.cases.length s.cap, Value.int IntKind.i64 s.els] 62)).alloc _).alloc _ = W0
  have hst0 : TSt s w 0 W0 := by rw [← hW]; exact hst
  clear hW hst
  go_loopw [9] (fun u wr => ∃ k : Nat, k ≤ s.cases.length ∧ u = .int .i64 k ∧ TSt s w k wr) (fun u _ => s.cases.length - (intOf u).toNat)
  case atStart => exact ⟨0, Nat.zero_le _, rfl, hst0⟩
  case round =>
    obtain ⟨k, hk, rfl, st⟩ := hrel
    by_cases hlt : k < s.cases.length
    · obtain ⟨c, hc, hm⟩ := get_lt s.cases k hlt
      obtain ⟨bb, o, hix, hbl, c0, c1, c2, c3⟩ := cas_ix (hl.later st.be).1 k c hc
      have hkl : (s.cases.length : Int) ≤ 9223372036854775807 := rows_len hl.1
      have hsz : w.heap.size + 1 < wr.heap.size := st.b1.lt
      have hsz2 : w.heap.size + 1 + 1 < wr.heap.size := st.b2.lt
      have hrc := hr c hm
      cases hs : c.send with
      | true =>
        obtain ⟨x, hx, hx8⟩ : ∃ x : Nat, c.reg = (x : Int) ∧ x < 8 := ⟨c.reg.toNat, by rcases hrc with h | h; omega; (rw [hs] at h; simp at h), by rcases hrc with h | h; omega; (rw [hs] at h; simp at h)⟩
        obtain ⟨e1, e2⟩ := snd_yes s.cases k c hc hs
        have E1 : Hid (sndL (s.cases.take (k + 1)) = sndL (s.cases.take k) ++ [(x : Int)]) := by show _ = _; rw [← hx]; exact e1
        have E2 : Hid (tkL (s.cases.take (k + 1)) = tkL (s.cases.take k)) := e2
        clear e1 e2 hc hrc
        have hma := mark_at (w.heap.size + 1) x hx8
        have hcl := st.b1.cell x hx8
        have hfr := st.b1.free x
        rw [hs] at c0
        rw [hx] at c2
        clear hs hx
        go_wp2
        go_roundw
        case rel => exact ⟨k + 1, by omega, by go_num, tst_one st _ hx8 E1.out E2.out⟩
        case measure => simp [intOf]; omega
      | false =>
        by_cases hr1 : c.reg = -1
        · obtain ⟨e1, e2⟩ := snd_none s.cases k c hc hs hr1
          have E1 : Hid (sndL (s.cases.take (k + 1)) = sndL (s.cases.take k)) := e1
          have E2 : Hid (tkL (s.cases.take (k + 1)) = tkL (s.cases.take k)) := e2
          clear e1 e2 hc hrc
          rw [hs] at c0
          rw [hr1] at c2
          clear hs hr1
          go_wp2
          go_roundw
          case rel => exact ⟨k + 1, by omega, by go_num, tst_same st _ E1.out E2.out⟩
          case measure => simp [intOf]; omega
        · obtain ⟨x, hx, hx8⟩ : ∃ x : Nat, c.reg = (x : Int) ∧ x < 8 := ⟨c.reg.toNat, by rcases hrc with h | h; omega; exact absurd h.1 hr1, by rcases hrc with h | h; omega; exact absurd h.1 hr1⟩
          obtain ⟨e1, e2⟩ := snd_no s.cases k c hc hs hr1
          have E1 : Hid (sndL (s.cases.take (k + 1)) = sndL (s.cases.take k)) := e1
          have E2 : Hid (tkL (s.cases.take (k + 1)) = tkL (s.cases.take k) ++ [(x : Int)]) := by show _ = _; rw [← hx]; exact e2
          clear e1 e2 hc hrc
          have hma := mark_at (w.heap.size + 1 + 1) x hx8
          have hcl := st.b2.cell x hx8
          have hfr := st.b2.free x
          rw [hs] at c0
          rw [hx] at c2
          have hne : ((x : Int) != -1) = true := by simp
          clear hs hx hr1
          go_wp2
          go_roundw
          case rel => exact ⟨k + 1, by omega, by go_num, tst_two st _ hx8 E1.out E2.out⟩
          case measure => simp [intOf]; omega
    · have hk2 : k = s.cases.length := by omega
      subst hk2
      have b1 := st.b1
      have b2 := st.b2
      have hbe := st.be
      rw [List.take_length] at b1 b2
      obtain ⟨R, hR⟩ : ∃ R, Hid (sndL s.cases = R) := ⟨_, rfl⟩
      obtain ⟨T, hT⟩ : ∃ T, Hid (tkL s.cases = T) := ⟨_, rfl⟩
      rw [hR.out] at b1
      rw [hT.out] at b2
      have hsz : w.heap.size + 1 < wr.heap.size := st.b1.lt
      have hsz2 : w.heap.size + 1 + 1 < wr.heap.size := st.b2.lt
      clear st hl hr hlt
      have d0 := b1.cell 0 (by omega)
      have d1 := b1.cell 1 (by omega)
      have d2 := b1.cell 2 (by omega)
      have d3 := b1.cell 3 (by omega)
      have d4 := b1.cell 4 (by omega)
      have d5 := b1.cell 5 (by omega)
      have d6 := b1.cell 6 (by omega)
      have d7 := b1.cell 7 (by omega)
      have g0 := b2.cell 0 (by omega)
      have g1 := b2.cell 1 (by omega)
      have g2 := b2.cell 2 (by omega)
      have g3 := b2.cell 3 (by omega)
      have g4 := b2.cell 4 (by omega)
      have g5 := b2.cell 5 (by omega)
      have g6 := b2.cell 6 (by omega)
      have g7 := b2.cell 7 (by omega)
      have fr1 := fun x => b1.free x
      have fr2 := fun x => b2.free x
      go_wp2
      go_region
      go_wp2
      simp only [setCell_self d0, setCell_self d1, setCell_self d2, setCell_self d3, setCell_self d4, setCell_self d5, setCell_self d6, setCell_self d7, setCell_self g0, setCell_self g1, setCell_self g2, setCell_self g3, setCell_self g4, setCell_self g5, setCell_self g6, setCell_self g7]
      refine bodyPost_ret (v := .tuple #[marksV (inl R), marksV (inl T)]) ?_ rfl ⟨by rw [hR.out, hT.out], hbe.drew⟩
      simp [results, Tryd.results39, go_sem, d0, d1, d2, d3, d4, d5, d6, d7, g0, g1, g2, g3, g4, g5, g6, g7]
end Go.Proofs.YtaghfahhfockkaaDoor.pg
