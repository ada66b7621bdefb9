/- Package depend's own Table: who depends on whom. -/
import Derived.Test.YtkadlopcomjonaaM22
import Derived.Test.YtkadlopcomjonaaM4
import Derived.Test.YtkadlopcomjonaaM23
import Derived.Shelf.Small.Bits
import Derived.Shelf.Strconv.Itoa0
import Derived.Ground.SlsfProg
import Derived.Shelf.SlSortCmp.InsertionK
import Derived.Shelf.SlSortCmp.SiftDownK
import Derived.Shelf.SlSortCmp.HeapSortK
import Derived.Shelf.SlSortCmp.MedianK
import Derived.Shelf.SlSortCmp.PivotK
import Derived.Shelf.SlSortCmp.ReverseRangeK
import Derived.Shelf.SlSortCmp.PartialInsertionK
import Derived.Shelf.SlSortCmp.PartitionEqualK
import Derived.Shelf.SlSortCmp.PartitionK
import Derived.Shelf.SlSortCmp.PdqK
import Derived.Shelf.SlSortCmp.WholeK
import Derived.Test.YtkadlopcomjonaaProg
import Derived.Test.YtkadlopcomjonaaShelf
namespace Go.Proofs.Ytkadlopcomjonaa.pg
open Go.ChangeShapes Go.WideShapes Go.ChangeAt Go.RowKit Go.Shelf
set_option linter.unusedVariables false
set_option linter.unusedSimpArgs false
set_option maxRecDepth 100000
attribute [local go_sem ↓] Go.wp_at_zero Go.wp_at_succ
/-- Told so far: all pairs whose later one is ahead of i, and of i those whose other one is ahead of j. -/
def tbl (l : List Ev) (i j a b : Nat) : Bool := if max a b < i ∨ (max a b = i ∧ min a b < j) then dpf l a b else false
theorem dpf_sym (l : List Ev) (i j : Nat) : dpf l i j = dpf l j i := clash_comm _ _
theorem tbl_one (l : List Ev) {i j : Nat} (h : j ≤ i) (a b : Nat) : (if a = j ∧ b = i then dpf l i j else if a = i ∧ b = j then dpf l i j else tbl l i j a b) = tbl l i (j + 1) a b := by
  unfold tbl
  by_cases h1 : a = j ∧ b = i
  · obtain ⟨rfl, rfl⟩ := h1
    rw [if_pos ⟨rfl, rfl⟩, if_pos (by omega), dpf_sym]
  · rw [if_neg h1]
    by_cases h2 : a = i ∧ b = j
    · obtain ⟨rfl, rfl⟩ := h2
      rw [if_pos ⟨rfl, rfl⟩, if_pos (by omega)]
    · rw [if_neg h2]
      have : (max a b < i ∨ (max a b = i ∧ min a b < j)) ↔ (max a b < i ∨ (max a b = i ∧ min a b < j + 1)) := by omega
      simp only [this]
theorem tbl_at (l : List Ev) (i j : Nat) : (if i = i ∧ j = j then dpf l i j else tbl l i j i j) = dpf l i j := by rw [if_pos ⟨rfl, rfl⟩]
theorem tbl_next (l : List Ev) (i a b : Nat) : tbl l i (i + 1) a b = tbl l (i + 1) 0 a b := by
  unfold tbl
  have : (max a b < i ∨ (max a b = i ∧ min a b < i + 1)) ↔ (max a b < i + 1 ∨ (max a b = i + 1 ∧ min a b < 0)) := by omega
  simp only [this]
theorem tbl_end (l : List Ev) {n a b : Nat} (ha : a < n) (hb : b < n) : tbl l n 0 a b = dpf l a b := by
  unfold tbl
  rw [if_pos (by omega)]
theorem tbl_zero (l : List Ev) (a b : Nat) : tbl l 0 0 a b = false := by
  unfold tbl
  rw [if_neg (by omega)]
theorem RbS.put {w wr : World} {A n : Nat} {rb : Nat → Nat} {M : Nat → Nat → Bool} (h : RbS w wr A n n rb M) {i : Nat} (hi : i < n) (j : Nat) (v : Bool) : RbS w (wr.setCell ⟨rb i, j, none⟩ (.bool v)) A n n rb (fun a b => if a = i ∧ b = j then v else M a b) :=
  ⟨h.m.set hi j v, h.m.below hi (Nat.le_refl _) h.b⟩
theorem table_bad (l : List Ev) (la : Option Addr) (lc : Nat) (w : World) (hl : Rows w 26 la lc (l.map Ev.cells)) (c : Int) (hc : Hid (checkP l c)) (h0 : (c == 0) = false) : Calls Try.prog 11 #[.slice la l.length lc] w fun e w' => e = .returned (.tuple #[.slice none 0 0, .int .i64 c]) ∧ Below w.heap.size w w' := by
  have c1 : Calls Try.prog 10 #[.slice la l.length lc] w _ := check_any l la lc w hl c hc
  clear hl hc
  go_enter Try.func11, Try.ntmps11
  go_wp2
  go_step3
  go_wp2_with (go_at_call 10; (with_reducible refine c1.mono ?_); rintro e w1 ⟨rfl, hb1⟩)
  rw [Exit.noGoto_ret]
  go_ret2
  exact ⟨rfl, hb1⟩
set_option maxHeartbeats 4000000 in
theorem table_ok (l : List Ev) (la : Option Addr) (lc : Nat) (w : World) (hl : Rows w 26 la lc (l.map Ev.cells)) (hlen : l.length ≤ 256) (hrt : ∀ x ∈ l, rightP x) :
    Calls Try.prog 11 #[.slice la l.length lc] w fun e w' => ∃ A rb, e = .returned (.tuple #[.slice (some ⟨A, 0, none⟩) l.length l.length, .int .i64 0]) ∧ RbS w w' A l.length l.length rb (dpf l) := by
  have c1 : Calls Try.prog 10 #[.slice la l.length lc] w _ := check_any l la lc w hl 0 (.inr (.inr ⟨hlen, hrt, rfl⟩))
  have hlI : (l.length : Int) ≤ 256 := by omega
  have hlH : Hid (Rows w 26 la lc (l.map Ev.cells)) := hl
  obtain ⟨iB, hiB, hzB, hsB, hbB⟩ := info_q infoBl
  obtain ⟨iS, hiS, hzS, hsS, hbS⟩ := info_q infoSb
  have iBH : Hid (Try.prog.info? 4 = some iB ∧ iB.zero = some (.bool false) ∧ iB.size = 1 ∧ iB.bytes * l.length ≤ 281474976710656) := ⟨hiB, hzB, hsB, by rw [hbB]; omega⟩
  have iSH : Hid (Try.prog.info? 36 = some iS ∧ iS.zero = some (.slice none 0 0) ∧ iS.size = 1 ∧ iS.bytes * l.length ≤ 281474976710656) := ⟨hiS, hzS, hsS, by rw [hbS]; omega⟩
  have huE : Hid (Try.prog.underlying 70 = _) := Try.underlying70
  have hiE : Hid ((Try.prog.info? 70).map (·.size) = some 26) := infoE26
  clear hl hrt hiB hzB hsB hbB hiS hzS hsS hbS
  go_enter Try.func11, Try.ntmps11
  go_wp2
  go_step3
  go_wp2_with (first
    | (go_at_call 10; (with_reducible refine c1.mono ?_); rintro e w0 ⟨rfl, hb0⟩; (have hb0H : Hid (Below w.heap.size w w0) := hb0); clear c1 hb0)
    | (refine wpList_mk _ rfl _ _ 25 rfl 36 iS (.slice none 0 0) Try.underlying25 iSH.out.1 iSH.out.2.1 rfl iSH.out.2.2.1 l.length rfl rfl iSH.out.2.2.2 (by omega) ?_; intro W hwh hbW hsW))
  have s0 : Hid (RbS w W w0.heap.size l.length 0 (fun _ => 0) fun _ _ => false) := ⟨mat_new hwh hb0H.out.size, bthen hb0H.out hbW⟩
  clear hwh hbW hsW hb0H
  obtain ⟨A, hA⟩ : ∃ A, w0.heap.size = A := ⟨_, rfl⟩
  rw [hA] at s0 ⊢
  clear hA
  go_loopw [19] (fun u wr => ∃ (k : Nat) (rb : Nat → Nat), k ≤ l.length ∧ u = .int .i64 k ∧ Hid (RbS w wr A l.length k rb fun _ _ => false)) (fun u _ => l.length - (intOf u).toNat)
  case atStart => exact ⟨0, _, Nat.zero_le _, rfl, s0⟩
  case round =>
    obtain ⟨k, rb, hk, rfl, hs⟩ := hrel
    clear s0
    by_cases hlt : k < l.length
    · have hkI : (k : Int) < l.length := by omega
      have xA := ix_row A l.length k hlt
      have nx : Hid (∀ W', W'.heap[wr.heap.size]? = some (.cells (List.replicate l.length (Value.bool false)).toArray 4 (0, 0)) → Below wr.heap.size wr W' → RbS w (W'.setCell ⟨A, k, none⟩ (.slice (some ⟨wr.heap.size, 0, none⟩) l.length l.length)) A l.length (k + 1) (fun i => if i = k then wr.heap.size else rb i) (fun _ _ => false)) := fun W' h1 h2 => by
        have hm := hs.out.m.more hlt (by have := hs.out.b.size; omega) (Nat.le_refl _) h2 (by rw [h1, boolRow_new])
        exact ⟨hm.congr fun i j _ _ => by split <;> rfl, by
          rw [setCell_eq_setRow W' A k _ _ _ _ (hs.out.m.later h2).a]
          exact below_setRow (bthen hs.out.b h2) hs.out.m.lo.1 _⟩
      have cl : Hid (∀ W', Below wr.heap.size wr W' → W'.cell? ⟨A, k, none⟩ = some (.slice none 0 0) ∧ W'.frozen? ⟨A, k, none⟩ = false) := fun W' h2 => by
        have h3 := (hs.out.m.later h2).a
        exact ⟨cell_of h3 (by rw [sliceRow_at hlt, if_neg (by omega)]), frozen_of_row _ _ _ _ _ h3⟩
      go_wp2_with (first
        | (refine wpList_mk _ rfl _ _ 36 rfl 4 iB (.bool false) Try.underlying36 iBH.out.1 iBH.out.2.1 rfl iBH.out.2.2.1 l.length rfl rfl iBH.out.2.2.2 (by omega) ?_; intro W1 hwh hbW hsW; (have hnew : Hid (RbS w (W1.setCell ⟨A, k, none⟩ (.slice (some ⟨wr.heap.size, 0, none⟩) l.length l.length)) A l.length (k + 1) (fun i => if i = k then wr.heap.size else rb i) (fun _ _ => false)) := nx.out W1 hwh hbW); (have hcl : Hid (W1.cell? ⟨A, k, none⟩ = some (.slice none 0 0) ∧ W1.frozen? ⟨A, k, none⟩ = false) := cl.out W1 hbW); clear hwh hbW hsW nx cl)
        | (refine wpList_puts rfl 36 _ _ rfl ⟨A, k, none⟩ rfl (some ⟨wr.heap.size, 0, none⟩) l.length l.length rfl (by kernel_rfl) _ hcl.out.1 hcl.out.2 ?_; intro W2 hW2; (have s2 : Hid (RbS w W2 A l.length (k + 1) (fun i => if i = k then wr.heap.size else rb i) (fun _ _ => false)) := by rw [hW2]; exact hnew.out); clear hW2 hnew hcl))
      go_roundw
      case rel => exact ⟨k + 1, _, by omega, by go_num, s2⟩
      case measure => simp [intOf]; omega
    · have hk2 : k = l.length := by omega
      subst hk2
      clear hlt hk
      have t0 : Hid (RbS w wr A l.length l.length rb (tbl l 0 0)) := hs.out.cong fun a b => (tbl_zero l a b).symm
      clear hs
      go_wp2_with fail
      go_step3
      go_wp2_with fail
      go_loopw [31] (fun u wq => ∃ i : Nat, i ≤ l.length ∧ u = .int .i64 i ∧ Hid (RbS w wq A l.length l.length rb (tbl l i 0))) (fun u _ => l.length - (intOf u).toNat)
      case atStart => exact ⟨0, Nat.zero_le _, rfl, t0⟩
      case round =>
        rename World => wq
        obtain ⟨i, hi, rfl, hs⟩ := hrel
        clear t0
        by_cases hlt : i < l.length
        · have hiI : (i : Int) < l.length := by omega
          have t1 : Hid (RbS w wq A l.length l.length rb (tbl l i 0)) := hs
          clear hs
          go_wp2_with fail
          go_loopw [36] (fun u wv => ∃ j : Nat, j ≤ i + 1 ∧ u = .int .i64 j ∧ Hid (RbS w wv A l.length l.length rb (tbl l i j))) (fun u _ => i + 1 - (intOf u).toNat)
          case atStart => exact ⟨0, Nat.zero_le _, rfl, t1⟩
          case round =>
            rename World => wv
            obtain ⟨j, hj, rfl, hs⟩ := hrel
            clear t1
            by_cases hji : j ≤ i
            · have hjn : j < l.length := by omega
              have hjI : (j : Int) < l.length := by omega
              have hjG : ¬ ((i : Int) < (j : Int)) := by omega
              have xAi := ix_row A l.length i hlt
              have xAj := ix_row A l.length j hjn
              have xRi := ix_bool (rb i) l.length j hjn
              have xRj := ix_bool (rb j) l.length i hlt
              obtain ⟨eb, eo, e1, e2, e3⟩ := ev_row hlH.out i _ (evf_at hlt)
              obtain ⟨fb, fo, f1, f2, f3⟩ := ev_row hlH.out j _ (evf_at hjn)
              have r1 : Hid (∀ w' : World, Below w.heap.size w w' → w'.rangeAt eb eo (evf l i).cells) := fun w' h => range_block e3 (h.block eb e2)
              have r2 : Hid (∀ w' : World, Below w.heap.size w w' → w'.rangeAt fb fo (evf l j).cells) := fun w' h => range_block f3 (h.block fb f2)
              clear e2 e3 f2 f3
              go_wp2_with fail
              have hS : Hid (∃ M, RbS w wv.drew A l.length l.length rb M) := ⟨_, hs.out.later (bey_drew wv)⟩
              refine wp_region_noPanic ?_
              refine wp_region_held_drew (S := fun w' => ∃ M, RbS w w' A l.length l.length rb M) (by kernel_rfl) hS.out (fun _ => ?_)
              refine reg_move (i := 0) rfl (by kernel_rfl) (by kernel_rfl) (by kernel_rfl) (fun _ _ _ _ h => h) rfl _ (fun _ => rfl) hS.out ?_
              simp only [Act.put, List.getElem_toArray, List.getElem_cons_succ, List.getElem_cons_zero, List.setIfInBounds_toArray, List.set_cons_zero, List.set_cons_succ]
              refine reg_move (i := 1) rfl (by kernel_rfl) (by kernel_rfl) (by kernel_rfl) (fun _ _ _ _ h => h) rfl _ (fun _ => rfl) hS.out ?_
              simp only [Act.put, List.getElem_toArray, List.getElem_cons_succ, List.getElem_cons_zero, List.setIfInBounds_toArray, List.set_cons_zero, List.set_cons_succ]
              refine reg_move (i := 2) rfl (by kernel_rfl) (by kernel_rfl) (by kernel_rfl) (fun _ _ _ _ h => h) rfl (.pointer (some ⟨A, i, none⟩)) (fun wx => by unfold execOp; exact run_value_of (xAi wx)) hS.out ?_
              simp only [Act.put, List.getElem_toArray, List.getElem_cons_succ, List.getElem_cons_zero, List.setIfInBounds_toArray, List.set_cons_zero, List.set_cons_succ]
              refine reg_load1 (i := 3) rfl (by kernel_rfl) (by kernel_rfl) (by kernel_rfl) (fun _ _ _ _ h => h) rfl 36 _ rfl ⟨A, i, none⟩ rfl _ Try.underlying36 rfl (.slice (some ⟨rb i, 0, none⟩) l.length l.length) (fun w' h' => h'.elim fun _ q => q.m.row (by omega) (by omega)) hS.out ?_
              simp only [Act.put, List.getElem_toArray, List.getElem_cons_succ, List.getElem_cons_zero, List.setIfInBounds_toArray, List.set_cons_zero, List.set_cons_succ]
              refine reg_move (i := 4) rfl (by kernel_rfl) (by kernel_rfl) (by kernel_rfl) (fun _ _ _ _ h => h) rfl _ (fun _ => rfl) hS.out ?_
              simp only [Act.put, List.getElem_toArray, List.getElem_cons_succ, List.getElem_cons_zero, List.setIfInBounds_toArray, List.set_cons_zero, List.set_cons_succ]
              refine reg_move (i := 5) rfl (by kernel_rfl) (by kernel_rfl) (by kernel_rfl) (fun _ _ _ _ h => h) rfl _ (fun _ => rfl) hS.out ?_
              simp only [Act.put, List.getElem_toArray, List.getElem_cons_succ, List.getElem_cons_zero, List.setIfInBounds_toArray, List.set_cons_zero, List.set_cons_succ]
              refine reg_move (i := 6) rfl (by kernel_rfl) (by kernel_rfl) (by kernel_rfl) (fun _ _ _ _ h => h) rfl _ (fun _ => rfl) hS.out ?_
              simp only [Act.put, List.getElem_toArray, List.getElem_cons_succ, List.getElem_cons_zero, List.setIfInBounds_toArray, List.set_cons_zero, List.set_cons_succ]
              refine reg_move (i := 7) rfl (by kernel_rfl) (by kernel_rfl) (by kernel_rfl) (fun _ _ _ _ h => h) rfl (.pointer (some ⟨eb, eo, none⟩)) (fun wx => by unfold execOp; exact run_value_of (e1 wx)) hS.out ?_
              simp only [Act.put, List.getElem_toArray, List.getElem_cons_succ, List.getElem_cons_zero, List.setIfInBounds_toArray, List.set_cons_zero, List.set_cons_succ]
              refine reg_load (i := 8) rfl (by kernel_rfl) (by kernel_rfl) (by kernel_rfl) (fun _ _ _ _ h => h) rfl 70 _ rfl eb eo rfl (evf l i).cells _ (fun w' h' => h'.elim fun _ q => r1.out w' q.b) huE.out rfl hiE.out hS.out ?_
              simp only [Act.put, List.getElem_toArray, List.getElem_cons_succ, List.getElem_cons_zero, List.setIfInBounds_toArray, List.set_cons_zero, List.set_cons_succ]
              refine reg_move (i := 9) rfl (by kernel_rfl) (by kernel_rfl) (by kernel_rfl) (fun _ _ _ _ h => h) rfl _ (fun _ => rfl) hS.out ?_
              simp only [Act.put, List.getElem_toArray, List.getElem_cons_succ, List.getElem_cons_zero, List.setIfInBounds_toArray, List.set_cons_zero, List.set_cons_succ]
              refine reg_move (i := 10) rfl (by kernel_rfl) (by kernel_rfl) (by kernel_rfl) (fun _ _ _ _ h => h) rfl _ (fun _ => rfl) hS.out ?_
              simp only [Act.put, List.getElem_toArray, List.getElem_cons_succ, List.getElem_cons_zero, List.setIfInBounds_toArray, List.set_cons_zero, List.set_cons_succ]
              refine reg_move (i := 11) rfl (by kernel_rfl) (by kernel_rfl) (by kernel_rfl) (fun _ _ _ _ h => h) rfl (.pointer (some ⟨fb, fo, none⟩)) (fun wx => by unfold execOp; exact run_value_of (f1 wx)) hS.out ?_
              simp only [Act.put, List.getElem_toArray, List.getElem_cons_succ, List.getElem_cons_zero, List.setIfInBounds_toArray, List.set_cons_zero, List.set_cons_succ]
              refine reg_load (i := 12) rfl (by kernel_rfl) (by kernel_rfl) (by kernel_rfl) (fun _ _ _ _ h => h) rfl 70 _ rfl fb fo rfl (evf l j).cells _ (fun w' h' => h'.elim fun _ q => r2.out w' q.b) huE.out rfl hiE.out hS.out ?_
              simp only [Act.put, List.getElem_toArray, List.getElem_cons_succ, List.getElem_cons_zero, List.setIfInBounds_toArray, List.set_cons_zero, List.set_cons_succ]
              refine reg_call2 (i := 13) (by kernel_rfl) rfl rfl 33 _ _ _ _ rfl (.agg (evf l i).cells.toArray) (.agg (evf l j).cells.toArray) rfl rfl (cf_fn Try.func33 (by kernel_rfl) (by kernel_rfl) _ _) _ (dependent_any _ _ _ (dpf l i j) rfl) ?_
              rintro e w2 ⟨rfl, hb2⟩
              have s2 : Hid (RbS w w2 A l.length l.length rb (tbl l i j)) := (hs.out.later (bey_drew wv)).later hb2
              clear hb2
              refine ⟨_, rfl, ⟨_, s2.out⟩, fun _ => ?_⟩
              simp only [Act.put, List.getElem_toArray, List.getElem_cons_succ, List.getElem_cons_zero, List.setIfInBounds_toArray, List.set_cons_zero, List.set_cons_succ]
              refine reg_move (i := 14) rfl (by kernel_rfl) (by kernel_rfl) (by kernel_rfl) (fun _ _ _ _ h => h) rfl (.pointer (some ⟨rb i, j, none⟩)) (fun wx => by unfold execOp; exact run_value_of (xRi wx)) ⟨_, s2.out⟩ ?_
              simp only [Act.put, List.getElem_toArray, List.getElem_cons_succ, List.getElem_cons_zero, List.setIfInBounds_toArray, List.set_cons_zero, List.set_cons_succ]
              have z2 := s2.out.m.cell (i := i) (j := j) hlt hjn
              refine reg_one (i := 15) (by kernel_rfl) rfl rfl (wpList_putb rfl 4 _ _ rfl ⟨rb i, j, none⟩ rfl (dpf l i j) rfl (by kernel_rfl) _ z2.1 z2.2 fun W' hW' => wpList_nil (And.intro (hW' ▸ ⟨_, s2.out.put hlt j (dpf l i j)⟩) fun _ => ?_))
              simp only [Act.put, List.getElem_toArray, List.getElem_cons_succ, List.getElem_cons_zero, List.setIfInBounds_toArray, List.set_cons_zero, List.set_cons_succ]
              have s3 : Hid (RbS w W' A l.length l.length rb (fun a b => if a = i ∧ b = j then dpf l i j else tbl l i j a b)) := by show RbS _ _ _ _ _ _ _; rw [hW']; exact s2.out.put hlt j (dpf l i j)
              refine wpAnyH_done (by kernel_rfl) (NoPanic.normal ?_) _
              clear hW' z2 s2 hS hs e1 f1 r1 r2
              go_wp2_with fail
              have s4 : Hid (RbS w W'.drew A l.length l.length rb (fun a b => if a = i ∧ b = j then dpf l i j else tbl l i j a b)) := s3.out.later (bey_drew W')
              have hS2 : Hid (∃ M, RbS w W'.drew A l.length l.length rb M ∧ M i j = dpf l i j) := ⟨_, s4.out, tbl_at l i j⟩
              have nx2 : Hid (RbS w (W'.drew.setCell ⟨rb j, i, none⟩ (.bool (dpf l i j))) A l.length l.length rb (tbl l i (j + 1))) := (s4.out.put hjn i (dpf l i j)).cong fun a b => tbl_one l hji a b
              have nx : Hid (∃ M, RbS w (W'.drew.setCell ⟨rb j, i, none⟩ (.bool (dpf l i j))) A l.length l.length rb M ∧ M i j = dpf l i j) := ⟨_, nx2.out, by unfold tbl; rw [if_pos (by omega)]⟩
              refine wp_region_noPanic ?_
              refine wp_region_held_drew (S := fun w' => ∃ M, RbS w w' A l.length l.length rb M ∧ M i j = dpf l i j) (by kernel_rfl) hS2.out (fun _ => ?_)
              refine reg_move (i := 0) rfl (by kernel_rfl) (by kernel_rfl) (by kernel_rfl) (fun _ _ _ _ h => h) rfl _ (fun _ => rfl) hS2.out ?_
              simp only [Act.put, List.getElem_toArray, List.getElem_cons_succ, List.getElem_cons_zero, List.setIfInBounds_toArray, List.set_cons_zero, List.set_cons_succ]
              refine reg_move (i := 1) rfl (by kernel_rfl) (by kernel_rfl) (by kernel_rfl) (fun _ _ _ _ h => h) rfl _ (fun _ => rfl) hS2.out ?_
              simp only [Act.put, List.getElem_toArray, List.getElem_cons_succ, List.getElem_cons_zero, List.setIfInBounds_toArray, List.set_cons_zero, List.set_cons_succ]
              refine reg_move (i := 2) rfl (by kernel_rfl) (by kernel_rfl) (by kernel_rfl) (fun _ _ _ _ h => h) rfl (.pointer (some ⟨A, j, none⟩)) (fun wx => by unfold execOp; exact run_value_of (xAj wx)) hS2.out ?_
              simp only [Act.put, List.getElem_toArray, List.getElem_cons_succ, List.getElem_cons_zero, List.setIfInBounds_toArray, List.set_cons_zero, List.set_cons_succ]
              refine reg_load1 (i := 3) rfl (by kernel_rfl) (by kernel_rfl) (by kernel_rfl) (fun _ _ _ _ h => h) rfl 36 _ rfl ⟨A, j, none⟩ rfl _ Try.underlying36 rfl (.slice (some ⟨rb j, 0, none⟩) l.length l.length) (fun w' h' => h'.elim fun _ q => q.1.m.row (by omega) (by omega)) hS2.out ?_
              simp only [Act.put, List.getElem_toArray, List.getElem_cons_succ, List.getElem_cons_zero, List.setIfInBounds_toArray, List.set_cons_zero, List.set_cons_succ]
              refine reg_move (i := 4) rfl (by kernel_rfl) (by kernel_rfl) (by kernel_rfl) (fun _ _ _ _ h => h) rfl _ (fun _ => rfl) hS2.out ?_
              simp only [Act.put, List.getElem_toArray, List.getElem_cons_succ, List.getElem_cons_zero, List.setIfInBounds_toArray, List.set_cons_zero, List.set_cons_succ]
              refine reg_move (i := 5) rfl (by kernel_rfl) (by kernel_rfl) (by kernel_rfl) (fun _ _ _ _ h => h) rfl _ (fun _ => rfl) hS2.out ?_
              simp only [Act.put, List.getElem_toArray, List.getElem_cons_succ, List.getElem_cons_zero, List.setIfInBounds_toArray, List.set_cons_zero, List.set_cons_succ]
              refine reg_move (i := 6) rfl (by kernel_rfl) (by kernel_rfl) (by kernel_rfl) (fun _ _ _ _ h => h) rfl _ (fun _ => rfl) hS2.out ?_
              simp only [Act.put, List.getElem_toArray, List.getElem_cons_succ, List.getElem_cons_zero, List.setIfInBounds_toArray, List.set_cons_zero, List.set_cons_succ]
              refine reg_move (i := 7) rfl (by kernel_rfl) (by kernel_rfl) (by kernel_rfl) (fun _ _ _ _ h => h) rfl (.pointer (some ⟨A, i, none⟩)) (fun wx => by unfold execOp; exact run_value_of (xAi wx)) hS2.out ?_
              simp only [Act.put, List.getElem_toArray, List.getElem_cons_succ, List.getElem_cons_zero, List.setIfInBounds_toArray, List.set_cons_zero, List.set_cons_succ]
              refine reg_load1 (i := 8) rfl (by kernel_rfl) (by kernel_rfl) (by kernel_rfl) (fun _ _ _ _ h => h) rfl 36 _ rfl ⟨A, i, none⟩ rfl _ Try.underlying36 rfl (.slice (some ⟨rb i, 0, none⟩) l.length l.length) (fun w' h' => h'.elim fun _ q => q.1.m.row (by omega) (by omega)) hS2.out ?_
              simp only [Act.put, List.getElem_toArray, List.getElem_cons_succ, List.getElem_cons_zero, List.setIfInBounds_toArray, List.set_cons_zero, List.set_cons_succ]
              refine reg_move (i := 9) rfl (by kernel_rfl) (by kernel_rfl) (by kernel_rfl) (fun _ _ _ _ h => h) rfl _ (fun _ => rfl) hS2.out ?_
              simp only [Act.put, List.getElem_toArray, List.getElem_cons_succ, List.getElem_cons_zero, List.setIfInBounds_toArray, List.set_cons_zero, List.set_cons_succ]
              refine reg_move (i := 10) rfl (by kernel_rfl) (by kernel_rfl) (by kernel_rfl) (fun _ _ _ _ h => h) rfl (.pointer (some ⟨rb i, j, none⟩)) (fun wx => by unfold execOp; exact run_value_of (xRi wx)) hS2.out ?_
              simp only [Act.put, List.getElem_toArray, List.getElem_cons_succ, List.getElem_cons_zero, List.setIfInBounds_toArray, List.set_cons_zero, List.set_cons_succ]
              refine reg_load1 (i := 11) rfl (by kernel_rfl) (by kernel_rfl) (by kernel_rfl) (fun _ _ _ _ h => h) rfl 4 _ rfl ⟨rb i, j, none⟩ rfl _ Try.underlying4 rfl (.bool (dpf l i j)) (fun w' h' => h'.elim fun _ q => by have z := (q.1.m.cell (i := i) (j := j) hlt hjn).1; rw [q.2] at z; exact z) hS2.out ?_
              simp only [Act.put, List.getElem_toArray, List.getElem_cons_succ, List.getElem_cons_zero, List.setIfInBounds_toArray, List.set_cons_zero, List.set_cons_succ]
              refine reg_move (i := 12) rfl (by kernel_rfl) (by kernel_rfl) (by kernel_rfl) (fun _ _ _ _ h => h) rfl (.pointer (some ⟨rb j, i, none⟩)) (fun wx => by unfold execOp; exact run_value_of (xRj wx)) hS2.out ?_
              simp only [Act.put, List.getElem_toArray, List.getElem_cons_succ, List.getElem_cons_zero, List.setIfInBounds_toArray, List.set_cons_zero, List.set_cons_succ]
              have z2 := s4.out.m.cell (i := j) (j := i) hjn hlt
              refine reg_one (i := 13) (by kernel_rfl) rfl rfl (wpList_putb rfl 4 _ _ rfl ⟨rb j, i, none⟩ rfl (dpf l i j) rfl (by kernel_rfl) _ z2.1 z2.2 fun W2 hW2 => wpList_nil (And.intro (by rw [hW2]; exact nx.out) fun _ => ?_))
              simp only [Act.put, List.getElem_toArray, List.getElem_cons_succ, List.getElem_cons_zero, List.setIfInBounds_toArray, List.set_cons_zero, List.set_cons_succ]
              have s5 : Hid (RbS w W2 A l.length l.length rb (tbl l i (j + 1))) := by show RbS _ _ _ _ _ _ _; rw [hW2]; exact nx2.out
              refine wpAnyH_done (by kernel_rfl) (NoPanic.normal ?_) _
              clear hW2 z2 s4 hS2 s3 nx nx2 xAi xAj xRi xRj
              go_wp2
              go_roundw
              case rel => exact ⟨j + 1, by omega, by go_num, s5⟩
              case measure => simp [intOf]; omega
            · have hj2 : j = i + 1 := by omega
              subst hj2
              have t2 : Hid (RbS w wv A l.length l.length rb (tbl l (i + 1) 0)) := hs.out.cong fun a b => tbl_next l i a b
              clear hs hji hj
              by_cases hjn : i + 1 < l.length
              · have hjI : ((i + 1 : Nat) : Int) < l.length := by omega
                have hjG : (i : Int) < ((i + 1 : Nat) : Int) := by omega
                go_wp2
                go_roundw
                case rel => exact ⟨i + 1, by omega, by go_num, t2⟩
                case measure => simp [intOf]; omega
              · have hjI : ¬ ((i + 1 : Nat) : Int) < l.length := by omega
                go_wp2
                go_roundw
                case rel => exact ⟨i + 1, by omega, by go_num, t2⟩
                case measure => simp [intOf]; omega
        · have hi2 : i = l.length := by omega
          subst hi2
          go_wp2
          rw [Exit.noGoto_ret]
          go_ret2
          exact ⟨A, rb, rfl, hs.out.m.congr fun a b ha hb => tbl_end l ha hb, hs.out.b⟩
end Go.Proofs.Ytkadlopcomjonaa.pg
/- The document's Table: who depends on whom. -/
namespace Go.Proofs.Ytkadlopcomjonaa.pg
open Go.ChangeShapes Go.WideShapes Go.ChangeAt Go.RowKit Go.Shelf
set_option linter.unusedVariables false
set_option linter.unusedSimpArgs false
set_option maxRecDepth 100000
attribute [local go_sem ↓] Go.wp_at_zero Go.wp_at_succ
def blC (b : Bool) : List Value := [.bool b]
theorem oneB (b : Bool) : ∀ u ∈ blC b, u.oneCell' = true := by intro u hu; simp [blC] at hu; subst hu; rfl
theorem lenB (l : List Bool) : ∀ row ∈ l.map blC, row.length = 1 := by intro r hr; simp only [List.mem_map] at hr; obtain ⟨x, _, rfl⟩ := hr; rfl
def updB {α : Type} (f : Nat → α) (a : Nat) (v : α) : Nat → α := fun b => if b = a then v else f b
theorem updB_at {α : Type} (f : Nat → α) (a : Nat) (v : α) : updB f a v a = v := by simp [updB]
theorem updB_ne {α : Type} (f : Nat → α) {a b : Nat} (v : α) (h : b ≠ a) : updB f a v b = f b := by simp [updB, h]
/-- A row of lists. -/
def slB (pa : Nat → Option Addr) (pc : Nat → Nat) (L : Nat → List Bool) (k : Nat) : Value := .slice (pa k) (L k).length (pc k)
def slR (H : Nat) (pa : Nat → Option Addr) (pc : Nat → Nat) (L : Nat → List Bool) : List (List Value) := (List.range H).map fun k => [slB pa pc L k]
theorem slR_len (H : Nat) (pa : Nat → Option Addr) (pc : Nat → Nat) (L : Nat → List Bool) : (slR H pa pc L).length = H := by simp [slR]
theorem slR_congr {H : Nat} {pa : Nat → Option Addr} {pc : Nat → Nat} {L L' : Nat → List Bool} (h : ∀ k, k < H → L k = L' k) : slR H pa pc L = slR H pa pc L' := by
  unfold slR
  refine List.map_congr_left fun k hk => ?_
  unfold slB
  rw [h k (List.mem_range.mp hk)]
theorem slR_snoc {N : Nat} {pa : Nat → Option Addr} {pc : Nat → Nat} {L : Nat → List Bool} {ra : Option Addr} {rc : Nat} {R : List Bool} : slR N pa pc L ++ [[Value.slice ra R.length rc]] = slR (N + 1) (updB pa N ra) (updB pc N rc) (updB L N R) := by
  unfold slR
  rw [List.range_succ, List.map_append]
  congr 1
  · refine List.map_congr_left fun k hk => ?_
    have : k ≠ N := by have := List.mem_range.mp hk; omega
    unfold slB
    rw [updB_ne _ _ this, updB_ne _ _ this, updB_ne _ _ this]
  · simp [slB, updB_at]
theorem own_tagB {w : World} {lo e k : Nat} {a : Option Addr} {cap : Nat} {L : List (List Value)} (h : OwnL w lo e k a cap L) {g : Nat} (hg : g ∈ blk a) : ∃ cur, w.heap[g]? = some (.cells cur e (0, 0)) := by
  rcases h.2 with ⟨q, _⟩ | ⟨g', cap', cur, q, hb, hg', h1, h2, h3, h4⟩
  · simp only [Value.slice.injEq] at q; rw [q.1] at hg; simp [blk] at hg
  · simp only [Value.slice.injEq] at q
    rw [q.1] at hg
    simp only [blk, List.mem_singleton] at hg
    subst hg
    exact ⟨cur, hg'⟩
theorem own_apartB {w : World} {lo lo' e e' k k' : Nat} {a a' : Option Addr} {cap cap' : Nat} {L L' : List (List Value)} (h : OwnL w lo e k a cap L) (h' : OwnL w lo' e' k' a' cap' L') (hne : e ≠ e') {g : Nat} (hg : g ∈ blk a) : g ∉ blk a' := fun hg' => by
  obtain ⟨c, h1⟩ := own_tagB h hg
  obtain ⟨c', h2⟩ := own_tagB h' hg'
  rw [h1] at h2
  simp at h2
  exact hne h2.2
/-- Rows that are done, in a list that grows, and one that is made. -/
structure RtM (V W : World) (N : Nat) (va : Option Addr) (vc : Nat) (pa : Nat → Option Addr) (pc : Nat → Nat) (L : Nat → List Bool) (ra : Option Addr) (rc : Nat) (R : List Bool) : Prop where
  o : OwnL W V.heap.size 36 1 va vc (slR N pa pc L)
  r : ∀ k, k < N → OwnL W V.heap.size 4 1 (pa k) (pc k) ((L k).map blC)
  x : OwnL W V.heap.size 4 1 ra rc (R.map blC)
  xa : ∀ k, k < N → ∀ g ∈ blk ra, g ∉ blk (pa k)
  b : Below V.heap.size V W
section
variable {V W W' : World} {N : Nat} {va : Option Addr} {vc : Nat} {pa : Nat → Option Addr} {pc : Nat → Nat} {L : Nat → List Bool} {ra : Option Addr} {rc : Nat} {R : List Bool}
theorem RtM.later (h : RtM V W N va vc pa pc L ra rc R) (hb : Below W.heap.size W W') : RtM V W' N va vc pa pc L ra rc R :=
  ⟨own_keep h.o fun g hg => hb.block g (blk_lt h.o g hg).2, fun k hk => own_keep (h.r k hk) fun g hg => hb.block g (blk_lt (h.r k hk) g hg).2, own_keep h.x fun g hg => hb.block g (blk_lt h.x g hg).2, h.xa, bthen h.b hb⟩
theorem RtM.more (h : RtM V W N va vc pa pc L ra rc R) {x : Bool} {ra' : Option Addr} {rc' : Nat} (hg : Grown W V.heap.size 4 1 ra (R.map blC) (blC x) ra' rc' W') : RtM V W' N va vc pa pc L ra' rc' (R ++ [x]) := by
  refine ⟨own_keep h.o fun g q => hg.kp g (blk_lt h.o g q).2 (own_apartB h.o h.x (by decide) q), fun k hk => own_keep (h.r k hk) fun g q => hg.kp g (blk_lt (h.r k hk) g q).2 fun q2 => h.xa k hk g q2 q, by rw [List.map_append]; exact hg.ow, fun k hk g q q2 => ?_, h.b.trans (hg.be.mono (by have := h.b.size; omega))⟩
  rcases hg.bk g q with z | z
  · exact h.xa k hk g z q2
  · have := (blk_lt (h.r k hk) g q2).2; omega
theorem RtM.row (h : RtM V W N va vc pa pc L ra rc R) {va' : Option Addr} {vc' : Nat} (hg : Grown W V.heap.size 36 1 va (slR N pa pc L) [Value.slice ra R.length rc] va' vc' W') : RtM V W' (N + 1) va' vc' (updB pa N ra) (updB pc N rc) (updB L N R) none 0 [] := by
  refine ⟨by rw [← slR_snoc]; exact hg.ow, fun k hk => ?_, own_nil_q _ _ _ _, (fun k hk g q => by cases q), h.b.trans (hg.be.mono (by have := h.b.size; omega))⟩
  by_cases c : k = N
  · subst c
    rw [updB_at, updB_at, updB_at]
    exact own_keep h.x fun g q => hg.kp g (blk_lt h.x g q).2 fun q2 => own_apartB h.o h.x (by decide) q2 q
  · rw [updB_ne _ _ c, updB_ne _ _ c, updB_ne _ _ c]
    have hk2 : k < N := by omega
    exact own_keep (h.r k hk2) fun g q => hg.kp g (blk_lt (h.r k hk2) g q).2 fun q2 => own_apartB h.o (h.r k hk2) (by decide) q2 q
theorem RtM.congr (h : RtM V W N va vc pa pc L ra rc R) {L' : Nat → List Bool} (e : ∀ k, k < N → L k = L' k) : RtM V W N va vc pa pc L' ra rc R :=
  ⟨by rw [← slR_congr e]; exact h.o, fun k hk => by rw [← e k hk]; exact h.r k hk, h.x, h.xa, h.b⟩
end
/-- The table as it is told: a list of lists of truths. -/
def Tb (w : World) (va : Option Addr) (vc H : Nat) (L : Nat → List Bool) : Prop := ∃ (pa : Nat → Option Addr) (pc : Nat → Nat), Rows w 1 va vc (slR H pa pc L) ∧ ∀ k, k < H → Rows w 1 (pa k) (pc k) ((L k).map blC)
theorem Tb.later {w w' : World} {va : Option Addr} {vc H : Nat} {L : Nat → List Bool} (h : Tb w va vc H L) (hb : Below w.heap.size w w') : Tb w' va vc H L := by
  obtain ⟨pa, pc, h1, h2⟩ := h
  exact ⟨pa, pc, h1.later hb, fun k hk => (h2 k hk).later hb⟩
theorem RtM.told {V W : World} {N : Nat} {va : Option Addr} {vc : Nat} {pa : Nat → Option Addr} {pc : Nat → Nat} {L : Nat → List Bool} {ra : Option Addr} {rc : Nat} {R : List Bool} (h : RtM V W N va vc pa pc L ra rc R) : Tb W va vc N L :=
  ⟨pa, pc, own_rows h.o (by intro row hr; obtain ⟨v, _, rfl⟩ := List.mem_map.mp hr; rfl), fun k hk => own_rows (h.r k hk) (lenB _)⟩
/-- A row, and as far as it is made. -/
def rwT (l : List Ev) (i k : Nat) : List Bool := (List.range k).map (dpf l i)
def rwL (l : List Ev) (i : Nat) : List Bool := rwT l i l.length
theorem rwT_more (l : List Ev) (i k : Nat) : rwT l i (k + 1) = rwT l i k ++ [dpf l i k] := by unfold rwT; rw [List.range_succ, List.map_append]; rfl
theorem rwT_len (l : List Ev) (i k : Nat) : ((rwT l i k).map blC).length = k := by simp [rwT]
theorem rwT_lenB (l : List Ev) (i k : Nat) : (rwT l i k).length = k := by simp [rwT]
set_option maxHeartbeats 4000000 in
theorem rtable_ok (l : List Ev) (la : Option Addr) (lc : Nat) (w : World) (hl : Rows w 26 la lc (l.map Ev.cells)) (hlen : l.length ≤ 256) :
    Calls Try.prog 15 #[.slice la l.length lc] w fun e w' => ∃ va vc, e = .returned (.slice va l.length vc) ∧ Hid (Tb w' va vc l.length (rwL l) ∧ Below w.heap.size w w') := by
  have hlI : (l.length : Int) ≤ 256 := by omega
  have hlH : Hid (Rows w 26 la lc (l.map Ev.cells)) := hl
  obtain ⟨iB, hiB, hzB, hsB, hbB⟩ := info_q infoBl
  obtain ⟨iS, hiS, hzS, hsS, hbS⟩ := info_q infoSb
  have iBH : Hid (Try.prog.info? 4 = some iB ∧ iB.zero = some (.bool false) ∧ iB.size = 1 ∧ iB.bytes = 1) := ⟨hiB, hzB, hsB, hbB⟩
  have iSH : Hid (Try.prog.info? 36 = some iS ∧ iS.zero = some (.slice none 0 0) ∧ iS.size = 1 ∧ iS.bytes = 24) := ⟨hiS, hzS, hsS, hbS⟩
  have huE : Hid (Try.prog.underlying 70 = _) := Try.underlying70
  have hiE : Hid ((Try.prog.info? 70).map (·.size) = some 26) := infoE26
  clear hl hiB hzB hsB hbB hiS hzS hsS hbS
  go_enter Try.func15, Try.ntmps15
  go_wp2_with fail
  go_loopw [3, 4] (fun o u wr => ∃ (N : Nat) (va : Option Addr) (vc : Nat) (pa : Nat → Option Addr) (pc : Nat → Nat), N ≤ l.length ∧ o = .slice va N vc ∧ u = .int .i64 N ∧ Hid (RtM w wr N va vc pa pc (rwL l) none 0 [])) (fun _ u _ => l.length - (intOf u).toNat)
  case atStart => exact ⟨0, none, 0, fun _ => none, fun _ => 0, Nat.zero_le _, rfl, rfl, own_nil_q _ _ _ _, fun k hk => by omega, own_nil_q _ _ _ _, fun k hk => by omega, Below.refl _ _⟩
  case round =>
    obtain ⟨N, va, vc, pa, pc, hN, rfl, rfl, hs⟩ := hrel
    by_cases hlt : N < l.length
    · have hNI : (N : Int) < l.length := by omega
      have t1 : Hid (RtM w wr N va vc pa pc (rwL l) none 0 (rwT l N 0)) := hs
      clear hs
      go_wp2_with fail
      go_loopw [5, 6] (fun o u wz => ∃ (k : Nat) (ra : Option Addr) (rc : Nat), k ≤ l.length ∧ o = .slice ra k rc ∧ u = .int .i64 k ∧ Hid (RtM w wz N va vc pa pc (rwL l) ra rc (rwT l N k))) (fun _ u _ => l.length - (intOf u).toNat)
      case atStart => exact ⟨0, none, 0, Nat.zero_le _, rfl, rfl, t1⟩
      case round =>
        rename World => wz
        obtain ⟨k, ra, rc, hk, rfl, rfl, hs⟩ := hrel
        clear t1
        by_cases hkn : k < l.length
        · have hkI : (k : Int) < l.length := by omega
          obtain ⟨eb, eo, e1, e2, e3⟩ := ev_row hlH.out N _ (evf_at hlt)
          obtain ⟨fb, fo, f1, f2, f3⟩ := ev_row hlH.out k _ (evf_at hkn)
          have r1 : Hid (∀ w' : World, Below w.heap.size w w' → w'.rangeAt eb eo (evf l N).cells) := fun w' h => range_block e3 (h.block eb e2)
          have r2 : Hid (∀ w' : World, Below w.heap.size w w' → w'.rangeAt fb fo (evf l k).cells) := fun w' h => range_block f3 (h.block fb f2)
          clear e2 e3 f2 f3
          go_wp2_with fail
          have hS : Hid (Below w.heap.size w wz.drew) := bthen hs.out.b (bey_drew wz)
          refine wp_region_noPanic ?_
          refine wp_region_held_drew (S := fun w' => Below w.heap.size w w') (by kernel_rfl) hS.out (fun _ => ?_)
          refine reg_move (i := 0) rfl (by kernel_rfl) (by kernel_rfl) (by kernel_rfl) (fun _ _ _ _ h => h) rfl _ (fun _ => rfl) hS.out ?_
          simp only [Act.put, List.getElem_toArray, List.getElem_cons_succ, List.getElem_cons_zero, List.setIfInBounds_toArray, List.set_cons_zero, List.set_cons_succ]
          refine reg_move (i := 1) rfl (by kernel_rfl) (by kernel_rfl) (by kernel_rfl) (fun _ _ _ _ h => h) rfl _ (fun _ => rfl) hS.out ?_
          simp only [Act.put, List.getElem_toArray, List.getElem_cons_succ, List.getElem_cons_zero, List.setIfInBounds_toArray, List.set_cons_zero, List.set_cons_succ]
          refine reg_move (i := 2) rfl (by kernel_rfl) (by kernel_rfl) (by kernel_rfl) (fun _ _ _ _ h => h) rfl _ (fun _ => rfl) hS.out ?_
          simp only [Act.put, List.getElem_toArray, List.getElem_cons_succ, List.getElem_cons_zero, List.setIfInBounds_toArray, List.set_cons_zero, List.set_cons_succ]
          refine reg_move (i := 3) rfl (by kernel_rfl) (by kernel_rfl) (by kernel_rfl) (fun _ _ _ _ h => h) rfl (.pointer (some ⟨eb, eo, none⟩)) (fun wx => by unfold execOp; exact run_value_of (e1 wx)) hS.out ?_
          simp only [Act.put, List.getElem_toArray, List.getElem_cons_succ, List.getElem_cons_zero, List.setIfInBounds_toArray, List.set_cons_zero, List.set_cons_succ]
          refine reg_load (i := 4) rfl (by kernel_rfl) (by kernel_rfl) (by kernel_rfl) (fun _ _ _ _ h => h) rfl 70 _ rfl eb eo rfl (evf l N).cells _ (fun w' h' => r1.out w' h') huE.out rfl hiE.out hS.out ?_
          simp only [Act.put, List.getElem_toArray, List.getElem_cons_succ, List.getElem_cons_zero, List.setIfInBounds_toArray, List.set_cons_zero, List.set_cons_succ]
          refine reg_move (i := 5) rfl (by kernel_rfl) (by kernel_rfl) (by kernel_rfl) (fun _ _ _ _ h => h) rfl _ (fun _ => rfl) hS.out ?_
          simp only [Act.put, List.getElem_toArray, List.getElem_cons_succ, List.getElem_cons_zero, List.setIfInBounds_toArray, List.set_cons_zero, List.set_cons_succ]
          refine reg_move (i := 6) rfl (by kernel_rfl) (by kernel_rfl) (by kernel_rfl) (fun _ _ _ _ h => h) rfl _ (fun _ => rfl) hS.out ?_
          simp only [Act.put, List.getElem_toArray, List.getElem_cons_succ, List.getElem_cons_zero, List.setIfInBounds_toArray, List.set_cons_zero, List.set_cons_succ]
          refine reg_move (i := 7) rfl (by kernel_rfl) (by kernel_rfl) (by kernel_rfl) (fun _ _ _ _ h => h) rfl (.pointer (some ⟨fb, fo, none⟩)) (fun wx => by unfold execOp; exact run_value_of (f1 wx)) hS.out ?_
          simp only [Act.put, List.getElem_toArray, List.getElem_cons_succ, List.getElem_cons_zero, List.setIfInBounds_toArray, List.set_cons_zero, List.set_cons_succ]
          refine reg_load (i := 8) rfl (by kernel_rfl) (by kernel_rfl) (by kernel_rfl) (fun _ _ _ _ h => h) rfl 70 _ rfl fb fo rfl (evf l k).cells _ (fun w' h' => r2.out w' h') huE.out rfl hiE.out hS.out ?_
          simp only [Act.put, List.getElem_toArray, List.getElem_cons_succ, List.getElem_cons_zero, List.setIfInBounds_toArray, List.set_cons_zero, List.set_cons_succ]
          refine reg_call2 (i := 9) (by kernel_rfl) rfl rfl 40 _ _ _ _ rfl (.agg (evf l N).cells.toArray) (.agg (evf l k).cells.toArray) rfl rfl (cf_fn Try.func40 (by kernel_rfl) (by kernel_rfl) _ _) _ (rdependent_any _ _ _ (dpf l N k) rfl) ?_
          rintro e w2 ⟨rfl, hb2⟩
          have s2 : Hid (RtM w w2 N va vc pa pc (rwL l) ra rc (rwT l N k)) := (hs.out.later (bey_drew wz)).later hb2
          clear hb2
          refine ⟨_, rfl, s2.out.b, fun _ => ?_⟩
          simp only [Act.put, List.getElem_toArray, List.getElem_cons_succ, List.getElem_cons_zero, List.setIfInBounds_toArray, List.set_cons_zero, List.set_cons_succ]
          refine reg_one (i := 10) (by kernel_rfl) rfl rfl ?_
          refine wpList_buildSlice rfl 36 4 1 _ rfl #[.bool (dpf l N k)] iB _ Try.underlying36 iBH.out.1 iBH.out.2.1 (by rw [iBH.out.2.2.1]; omega) (by rw [iBH.out.2.2.1]; omega) (by simp only [iBH.out.2.2.1]; kernel_rfl) (wpList_nil (And.intro (bthen s2.out.b (boxed _ _)) fun _ => ?_))
          simp only [Act.put, List.getElem_toArray, List.getElem_cons_succ, List.getElem_cons_zero, List.setIfInBounds_toArray, List.set_cons_zero, List.set_cons_succ]
          refine reg_one (i := 11) (by kernel_rfl) rfl rfl ?_
          refine wpList_app1 rfl (.tmp 19) (.tmp 29) 36 rfl w.heap.size 4 iB _ 1 1 Try.underlying36 iBH.out.1 iBH.out.2.1 iBH.out.2.2.1 iBH.out.2.2.2 rfl (by decide) ra rc ((rwT l N k).map blC) (by rw [rwT_len]; rfl) s2.out.x (blC (dpf l N k)) rfl rfl (oneB _) (by rw [rwT_len]; unfold maxLen; omega) (by rw [rwT_len]; omega) s2.out.b.size ?_
          intro ra' rc' w3 hg
          have hg2 : Hid (RtM w w3 N va vc pa pc (rwL l) ra' rc' (rwT l N (k + 1))) := (by show RtM _ _ _ _ _ _ _ _ _ _ _; rw [rwT_more]; exact s2.out.more hg)
          clear hg
          refine wpList_nil (And.intro hg2.out.b fun _ => ?_)
          rw [rwT_len]
          simp only [Act.put, List.getElem_toArray, List.getElem_cons_succ, List.getElem_cons_zero, List.setIfInBounds_toArray, List.set_cons_zero, List.set_cons_succ]
          refine reg_move (i := 12) rfl (by kernel_rfl) (by kernel_rfl) (by kernel_rfl) (fun _ _ _ _ h => h) rfl _ (fun _ => rfl) hg2.out.b ?_
          simp only [Act.put, List.getElem_toArray, List.getElem_cons_succ, List.getElem_cons_zero, List.setIfInBounds_toArray, List.set_cons_zero, List.set_cons_succ]
          refine wpAnyH_done (by kernel_rfl) (NoPanic.normal ?_) _
          clear s2 hS hs e1 f1 r1 r2
          go_wp2
          go_roundw
          case rel => exact ⟨k + 1, ra', rc', by omega, rfl, by go_num, hg2⟩
          case measure => simp [intOf]; omega
        · have hk2 : k = l.length := by omega
          subst hk2
          have hup : Hid (∀ q, q < N + 1 → updB (rwL l) N (rwT l N l.length) q = rwL l q) := fun q _ => by
            by_cases c : q = N
            · subst c; rw [updB_at]; rfl
            · rw [updB_ne _ _ c]
          have hsl : Hid ((slR N pa pc (rwL l)).length = N) := slR_len _ _ _ _
          have hlR : Hid ((rwT l N l.length).length = l.length) := rwT_lenB _ _ _
          go_wp2_with (first
            | (refine wpList_buildSlice rfl 25 36 1 _ rfl #[.slice ra l.length rc] iS _ Try.underlying25 iSH.out.1 iSH.out.2.1 (by rw [iSH.out.2.2.1]; omega) (by rw [iSH.out.2.2.1]; omega) (by simp only [iSH.out.2.2.1]; kernel_rfl) ?_)
            | (at_builtin; (refine wpList_app1 rfl (.tmp 31) (.tmp 33) 25 rfl w.heap.size 36 iS _ 1 24 Try.underlying25 iSH.out.1 iSH.out.2.1 iSH.out.2.2.1 iSH.out.2.2.2 rfl (by decide) va vc (slR N pa pc (rwL l)) (by rw [hsl.out]; rfl) hs.out.o [Value.slice ra l.length rc] rfl rfl (by intro u hu; rw [List.mem_singleton] at hu; subst hu; rfl) (by rw [hsl.out]; unfold maxLen; omega) (by rw [hsl.out]; omega) hs.out.b.size ?_); intro va' vc' w3 hg; rw [hsl.out]; (have hg2 : Hid (RtM w w3 (N + 1) va' vc' (updB pa N ra) (updB pc N rc) (rwL l) none 0 []) := (hs.out.row (by rw [hlR.out]; exact hg)).congr hup.out); clear hg))
          go_roundw
          case rel => exact ⟨N + 1, va', vc', _, _, by omega, rfl, by go_num, hg2⟩
          case measure => simp [intOf]; omega
    · have hN2 : N = l.length := by omega
      subst hN2
      have hfin : Hid (Tb wr va vc l.length (rwL l) ∧ Below w.heap.size w wr) := ⟨hs.out.told, hs.out.b⟩
      clear hs
      go_wp2
      go_ret
      exact ⟨va, vc, rfl, hfin⟩
end Go.Proofs.Ytkadlopcomjonaa.pg
/- The kit's own contract of slices.SortFunc, laid at this seat's translation at a second type. -/
namespace Go.Proofs
open Go.Shelf
def Try.laysSlF06_f35_ren : Go.Shelf.Ren := ⟨fun | 6 => 35 | 15 => 68 | 14 => 67 | 28 => 89 | 29 => 90 | 20 => 81 | 21 => 82 | 22 => 83 | 23 => 84 | 24 => 85 | 25 => 86 | 26 => 87 | 27 => 88 | 46 => 97 | 47 => 98 | 48 => 99 | 49 => 100 | 50 => 101 | 57 => 114 | n => n, fun | 22 => 28 | 24 => 67 | 25 => 74 | 3 => 3 | 39 => 117 | 0 => 0 | 53 => 138 | 55 => 140 | 4 => 4 | 46 => 131 | 45 => 130 | 50 => 135 | 5 => 5 | 9 => 9 | 66 => 151 | 70 => 155 | 76 => 166 | 77 => 59 | n => n, fun | n => n⟩
theorem Try.laysSlF06_f35 : Go.Proofs.SlLaysF0.n6 Try.prog Try.laysSlF06_f35_ren := {
  mixed := by kernel_rfl
  f6 := ⟨Try.f35.name, by decide, Try.func35.trans (congrArg some (by kernel_rfl))⟩
  f14 := ⟨Try.f67.name, by decide, Try.func67.trans (congrArg some (by kernel_rfl))⟩
  f15 := Try.func68.trans (congrArg some (by kernel_rfl))
  f20 := ⟨Try.f81.name, by decide, Try.func81.trans (congrArg some (by kernel_rfl))⟩
  f21 := ⟨Try.f82.name, by decide, Try.func82.trans (congrArg some (by kernel_rfl))⟩
  f22 := ⟨Try.f83.name, by decide, Try.func83.trans (congrArg some (by kernel_rfl))⟩
  f23 := ⟨Try.f84.name, by decide, Try.func84.trans (congrArg some (by kernel_rfl))⟩
  f24 := ⟨Try.f85.name, by decide, Try.func85.trans (congrArg some (by kernel_rfl))⟩
  f25 := ⟨Try.f86.name, by decide, Try.func86.trans (congrArg some (by kernel_rfl))⟩
  f26 := ⟨Try.f87.name, by decide, Try.func87.trans (congrArg some (by kernel_rfl))⟩
  f27 := ⟨Try.f88.name, by decide, Try.func88.trans (congrArg some (by kernel_rfl))⟩
  f28 := Try.func89.trans (congrArg some (by kernel_rfl))
  f29 := Try.func90.trans (congrArg some (by kernel_rfl))
  f46 := ⟨Try.f97.name, by decide, Try.func97.trans (congrArg some (by kernel_rfl))⟩
  f47 := Try.func98.trans (congrArg some (by kernel_rfl))
  f48 := Try.func99.trans (congrArg some (by kernel_rfl))
  f49 := ⟨Try.f100.name, by decide, Try.func100.trans (congrArg some (by kernel_rfl))⟩
  f50 := ⟨Try.f101.name, by decide, Try.func101.trans (congrArg some (by kernel_rfl))⟩
  f57 := ⟨Try.f114.name, by decide, Try.func114.trans (congrArg some (by kernel_rfl))⟩
  t0 := Try.underlying0
  a0 := Try.isAgg0
  z0 := Try.sizeOf0
  v0 := Try.zeroValue0
  t3 := Try.underlying3
  a3 := Try.isAgg3
  z3 := Try.sizeOf3
  v3 := Try.zeroValue3
  t4 := Try.underlying4
  a4 := Try.isAgg4
  z4 := Try.sizeOf4
  v4 := Try.zeroValue4
  t5 := Try.underlying5
  a5 := Try.isAgg5
  z5 := Try.sizeOf5
  v5 := Try.zeroValue5
  t9 := Try.underlying9
  a9 := Try.isAgg9
  z9 := Try.sizeOf9
  v9 := Try.zeroValue9
  t22 := Try.underlying28
  a22 := Try.isAgg28
  z22 := Try.sizeOf28
  v22 := Try.zeroValue28
  t25 := Try.underlying74
  a25 := Try.isAgg74
  z25 := Try.sizeOf74
  v25 := Try.zeroValue74
  t39 := Try.underlying117
  a39 := Try.isAgg117
  z39 := Try.sizeOf117
  v39 := Try.zeroValue117
  t45 := Try.underlying130
  a45 := Try.isAgg130
  z45 := Try.sizeOf130
  v45 := Try.zeroValue130
  t46 := Try.underlying131
  a46 := Try.isAgg131
  z46 := Try.sizeOf131
  v46 := Try.zeroValue131
  t50 := Try.underlying135
  a50 := Try.isAgg135
  z50 := Try.sizeOf135
  v50 := Try.zeroValue135
  t53 := Try.underlying138
  a53 := Try.isAgg138
  z53 := Try.sizeOf138
  v53 := Try.zeroValue138
  t55 := Try.underlying140
  a55 := Try.isAgg140
  z55 := Try.sizeOf140
  v55 := Try.zeroValue140
  t66 := Try.underlying151
  a66 := Try.isAgg151
  z66 := Try.sizeOf151
  v66 := Try.zeroValue151
  t70 := Try.underlying155
  a70 := Try.isAgg155
  z70 := Try.sizeOf155
  v70 := Try.zeroValue155
  t76 := Try.underlying166
  a76 := Try.isAgg166
  z76 := Try.sizeOf166
  v76 := Try.zeroValue166
  t77 := Try.underlying59
  a77 := Try.isAgg59
  z77 := Try.sizeOf59
  v77 := Try.zeroValue59 }
open Go.RowKit Go.Lib Go.Sort in
theorem Try.slices_SortAcc_eq {α : Type} [Inhabited α] (k : Nat) (aE : ∀ w, (isAgg 67).run Try.prog w = .ok true w) (zE : ∀ w, (Go.sizeOf 67).run Try.prog w = .ok k w) (enc : α → List Value) (hk : ∀ x, (enc x).length = k) (h1 : ∀ x, ∀ v ∈ enc x, v.oneCell' = true) (cf : α → α → Int) (hO : SWO (ltOf cf)) (g : Nat) (cb : Array Value) (blk off cap : Nat) (d : Array α) (w : World) (eg : ∀ args w, (callFunc g args).run Try.prog w = .ok (.enter g args) w) (hcmp : CmpLays Try.prog g cb enc k cf blk off d.size w) (hH : HoldsK enc k w blk off d) (hblk : blk < w.heap.size) (hsz : d.size < 4611686018427387904) :
    Calls Try.prog 35 #[.slice (some ⟨blk, off, none⟩) d.size cap, .func (.func g) #[] cb] w fun e w' =>
      e = .returned (.tuple #[]) ∧ ∃ n os, w' = sortWorldK enc k w blk off n (pdq (ltOf cf) d 0 d.size (Lib.bitLen d.size) true true) os := AnyQ.slices_SortFunc_eq Try.laysSlF06_f35 k aE zE enc hk h1 cf hO g cb blk off cap d w eg hcmp hH hblk hsz
open Go.RowKit Go.Lib Go.Sort in
theorem Try.slices_SortAcc {α : Type} [Inhabited α] (k : Nat) (aE : ∀ w, (isAgg 67).run Try.prog w = .ok true w) (zE : ∀ w, (Go.sizeOf 67).run Try.prog w = .ok k w) (enc : α → List Value) (hk : ∀ x, (enc x).length = k) (h1 : ∀ x, ∀ v ∈ enc x, v.oneCell' = true) (cf : α → α → Int) (hO : SWO (ltOf cf)) (g : Nat) (cb : Array Value) (blk off cap : Nat) (d : Array α) (w : World) (eg : ∀ args w, (callFunc g args).run Try.prog w = .ok (.enter g args) w) (hcmp : CmpLays Try.prog g cb enc k cf blk off d.size w) (hH : HoldsK enc k w blk off d) (hblk : blk < w.heap.size) (hsz : d.size < 4611686018427387904) :
    Calls Try.prog 35 #[.slice (some ⟨blk, off, none⟩) d.size cap, .func (.func g) #[] cb] w fun e w' =>
      e = .returned (.tuple #[]) ∧ ∃ d' n os, PermIn 0 d.size d d' ∧ SortedIn (ltOf cf) 0 d.size d' ∧ w' = sortWorldK enc k w blk off n d' os := AnyQ.slices_SortFunc Try.laysSlF06_f35 k aE zE enc hk h1 cf hO g cb blk off cap d w eg hcmp hH hblk hsz
end Go.Proofs
