/- What an instruction reads and sets: the states that package prog's touched goes through. -/
import Derived.Test.YtaghfahhfockkaaDoorTouch1
import Derived.Test.YtaghfahhfockkaaDoorChk5
namespace Go.Proofs.YtaghfahhfockkaaDoor.pg
open Go.ChangeShapes Go.WideShapes Go.ChangeAt Go.RowKit
set_option linter.unusedVariables false
set_option linter.unusedSimpArgs false
set_option maxRecDepth 100000
theorem setsFirst_any (op : Int) (w : World) (r : Bool) (hr : Hid (decide (firstSet op) = r)) :
    Calls Tryd.prog 38 #[.int .i64 op] w fun e w' => e = .returned (.bool r) ∧ w' = w := by
  by_cases h1 : op = 43
  · subst h1
    have hv : Hid (r = false) := hr.out.symm.trans (by decide)
    go_enter Tryd.func38, Tryd.ntmps38
    go_wp2
    go_ret
    exact ⟨ret_b hv.out.symm, rfl⟩
  · by_cases h2 : op = 44
    · subst h2
      have hv : Hid (r = false) := hr.out.symm.trans (by decide)
      go_enter Tryd.func38, Tryd.ntmps38
      go_wp2
      go_ret
      exact ⟨ret_b hv.out.symm, rfl⟩
    · by_cases h3 : op = 63
      · subst h3
        have hv : Hid (r = false) := hr.out.symm.trans (by decide)
        go_enter Tryd.func38, Tryd.ntmps38
        go_wp2
        go_ret
        exact ⟨ret_b hv.out.symm, rfl⟩
      · by_cases h4 : op = 65
        · subst h4
          have hv : Hid (r = false) := hr.out.symm.trans (by decide)
          go_enter Tryd.func38, Tryd.ntmps38
          go_wp2
          go_ret
          exact ⟨ret_b hv.out.symm, rfl⟩
        · have hv : Hid (r = true) := hr.out.symm.trans (decide_eq_true (by unfold firstSet; omega))
          go_enter Tryd.func38, Tryd.ntmps38
          go_wp2
          go_ret
          exact ⟨ret_b hv.out.symm, rfl⟩
/-- A letter of an operation's form. -/
theorem str_ix {op : Int} {F : ByteArray} (hF : prog.frm op = F) (hk : known op) (k : Nat) (h4 : k < 4) : ∀ wx, (Instr.index 9 (.string F) (.int .i64 (k : Int))).run Tryd.prog wx = .ok (.int .u8 (lt op k)) wx := by
  intro wx
  rw [frm_form] at hF
  rcases formOf_four op with hne | ⟨a0, a1, a2, a3, hf4, q0, q1, q2, q3⟩
  · exact absurd hne hk
  · have B0 := byte_str a0 q0
    have B1 := byte_str a1 q1
    have B2 := byte_str a2 q2
    have B3 := byte_str a3 q3
    rw [hf4] at hF
    simp only [List.map] at hF
    have hl : lt op k = ([(a0 : Int), a1, a2, a3] : List Int).getD k 0 := by unfold lt; rw [hf4]
    rw [hl]
    clear hl hf4
    generalize UInt8.ofNat ((a0 : Int).toNat) = c0 at *
    generalize UInt8.ofNat ((a1 : Int).toNat) = c1 at *
    generalize UInt8.ofNat ((a2 : Int).toNat) = c2 at *
    generalize UInt8.ofNat ((a3 : Int).toNat) = c3 at *
    subst hF
    have hk4 : k = 0 ∨ k = 1 ∨ k = 2 ∨ k = 3 := by omega
    have C0 : ((⟨#[c0, c1, c2, c3]⟩ : ByteArray)[0]'(by show 0 < 4; decide)).toNat = a0 := by show c0.toNat = a0; omega
    have C1 : ((⟨#[c0, c1, c2, c3]⟩ : ByteArray)[1]'(by show 1 < 4; decide)).toNat = a1 := by show c1.toNat = a1; omega
    have C2 : ((⟨#[c0, c1, c2, c3]⟩ : ByteArray)[2]'(by show 2 < 4; decide)).toNat = a2 := by show c2.toNat = a2; omega
    have C3 : ((⟨#[c0, c1, c2, c3]⟩ : ByteArray)[3]'(by show 3 < 4; decide)).toNat = a3 := by show c3.toNat = a3; omega
    have hz : (⟨#[c0, c1, c2, c3]⟩ : ByteArray).size = 4 := rfl
    have hu := Tryd.underlying9
    rcases hk4 with rfl | rfl | rfl | rfl
    all_goals simp [Instr.index, run_underlying hu, asIntOf, go_sem, C0, C1, C2, C3, hz]
theorem frm_four {op : Int} {F : ByteArray} (hF : prog.frm op = F) (hk : known op) : F.size = 4 := by
  rw [frm_form] at hF
  rcases formOf_four op with hne | ⟨a0, a1, a2, a3, hf4, q0, q1, q2, q3⟩
  · exact absurd hne hk
  · rw [hf4] at hF
    subst hF
    rfl
/-- An operand in the box of four. -/
theorem opnd_at (B x : Nat) (hx : x < 4) : ∀ wx, (Instr.indexAt 95 (.pointer (some ⟨B, 0, none⟩)) (.int .i64 (x : Int))).run Tryd.prog wx = .ok (.pointer (some ⟨B, x, none⟩)) wx := by
  intro wx
  rw [run_indexAt_array _ _ _ _ _ (show Tryd.prog.underlying 95 = some (.array (Tryd.prog.arrayLen 95) (Tryd.prog.elem 95)) by kernel_rfl)]
  rw [show Tryd.prog.arrayLen 95 = 4 by kernel_rfl, show Tryd.prog.elem 95 = 2 by kernel_rfl, if_pos (by omega), Tryd.sizeOf2 wx]
  show Result.ok (Value.pointer (some ((⟨B, 0, none⟩ : Addr).add ((x : Int).toNat * 1)))) wx = _
  rw [add_none]
  simp
theorem BoxX.cell {w : World} {B : Nat} {i : Ins} (h : BoxX w B i) (k : Nat) (hk : k < 4) : w.cell? ⟨B, k, none⟩ = some (.int .i64 (i.x k)) := by
  have hk4 : k = 0 ∨ k = 1 ∨ k = 2 ∨ k = 3 := by omega
  rcases hk4 with rfl | rfl | rfl | rfl
  · exact h.1
  · exact h.2.1
  · exact h.2.2.1
  · exact h.2.2.2
structure LSt (M : MPr) (i : Ins) (w : World) (I A : Nat) (r s : List Int) (wr : World) : Prop where
  be : Below w.heap.size w wr
  bp : BoxP wr w.heap.size M
  m1 : MBox wr (w.heap.size + 1) r
  m2 : MBox wr (w.heap.size + 1 + 1) s
  bi : BoxI wr I i
  bx : BoxX wr A i
  hI : w.heap.size + 1 + 1 < I
  hA : w.heap.size + 1 + 1 < A
theorem cell_keep {w w' : World} {b o : Nat} {u : Value} (h : w.cell? ⟨b, o, none⟩ = some u) (hk : w'.heap[b]? = w.heap[b]?) : w'.cell? ⟨b, o, none⟩ = some u := by
  rw [World.cell?] at h ⊢
  simp only [hk]
  exact h
theorem BoxP.keep {w w' : World} {B : Nat} {x : MPr} (h : BoxP w B x) (hk : w'.heap[B]? = w.heap[B]?) : BoxP w' B x := ⟨cell_keep h.1 hk, cell_keep h.2.1 hk, cell_keep h.2.2.1 hk, cell_keep h.2.2.2 hk⟩
theorem BoxX.keep {w w' : World} {B : Nat} {x : Ins} (h : BoxX w B x) (hk : w'.heap[B]? = w.heap[B]?) : BoxX w' B x := ⟨cell_keep h.1 hk, cell_keep h.2.1 hk, cell_keep h.2.2.1 hk, cell_keep h.2.2.2 hk⟩
theorem BoxI.keep {w w' : World} {B : Nat} {x : Ins} (h : BoxI w B x) (hk : w'.heap[B]? = w.heap[B]?) : BoxI w' B x := ⟨cell_keep h.1 hk, cell_keep h.2.1 hk, cell_keep h.2.2.1 hk, cell_keep h.2.2.2.1 hk, cell_keep h.2.2.2.2 hk⟩
section
variable {M : MPr} {i : Ins} {w : World} {I A : Nat} {r s : List Int} {wr : World}
theorem LSt.later (st : LSt M i w I A r s wr) {w' : World} (hb : Below wr.heap.size wr w') : LSt M i w I A r s w' :=
  ⟨bthen st.be hb, st.bp.later hb, st.m1.later hb, st.m2.later hb, st.bi.later hb, st.bx.later hb, st.hI, st.hA⟩
theorem LSt.put1 (st : LSt M i w I A r s wr) {x : Nat} (hx : x < 8) : LSt M i w I A (r ++ [(x : Int)]) s (wr.setCell ⟨w.heap.size + 1, x, none⟩ (.bool true)) := by
  have hI := st.hI
  have hA := st.hA
  have hk : ∀ b, b ≠ w.heap.size + 1 → (wr.setCell ⟨w.heap.size + 1, x, none⟩ (.bool true)).heap[b]? = wr.heap[b]? := fun b hb => heap_setCell_other _ _ _ _ hb
  exact ⟨st.be.setCell (Nat.le_succ _) _, st.bp.keep (hk _ (by omega)), st.m1.put x hx, st.m2.keep (hk _ (by omega)), st.bi.keep (hk _ (by omega)), st.bx.keep (hk _ (by omega)), hI, hA⟩
theorem LSt.put2 (st : LSt M i w I A r s wr) {x : Nat} (hx : x < 8) : LSt M i w I A r (s ++ [(x : Int)]) (wr.setCell ⟨w.heap.size + 1 + 1, x, none⟩ (.bool true)) := by
  have hI := st.hI
  have hA := st.hA
  have hk : ∀ b, b ≠ w.heap.size + 1 + 1 → (wr.setCell ⟨w.heap.size + 1 + 1, x, none⟩ (.bool true)).heap[b]? = wr.heap[b]? := fun b hb => heap_setCell_other _ _ _ _ hb
  exact ⟨st.be.setCell (le2 _) _, st.bp.keep (hk _ (by omega)), st.m1.keep (hk _ (by omega)), st.m2.put x hx, st.bi.keep (hk _ (by omega)), st.bx.keep (hk _ (by omega)), hI, hA⟩
end
end Go.Proofs.YtaghfahhfockkaaDoor.pg
