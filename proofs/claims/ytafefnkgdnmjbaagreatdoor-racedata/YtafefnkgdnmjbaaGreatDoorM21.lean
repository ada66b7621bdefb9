/- A matrix of truths: the block of its rows, and each row's block. -/
import Derived.Test.YtafefnkgdnmjbaaGreatDoorM20
import Derived.Test.YtafefnkgdnmjbaaGreatDoorM14
import Derived.BigRegion
namespace Go.Proofs.YtafefnkgdnmjbaaGreatDoor.pg
open Go.ChangeShapes Go.WideShapes Go.ChangeAt Go.RowKit Go.Shelf
set_option linter.unusedVariables false
set_option linter.unusedSimpArgs false
set_option maxRecDepth 100000
def boolRow (n : Nat) (f : Nat → Bool) : Array Value := ((List.range n).map fun j => Value.bool (f j)).toArray
def sliceRow (n k : Nat) (rb : Nat → Nat) : Array Value := ((List.range n).map fun i => if i < k then Value.slice (some ⟨rb i, 0, none⟩) n n else Value.slice none 0 0).toArray
theorem boolRow_at {n : Nat} {f : Nat → Bool} {j : Nat} (h : j < n) : (boolRow n f)[j]? = some (.bool (f j)) := by simp [boolRow, h]
theorem sliceRow_at {n k : Nat} {rb : Nat → Nat} {i : Nat} (h : i < n) : (sliceRow n k rb)[i]? = some (if i < k then Value.slice (some ⟨rb i, 0, none⟩) n n else Value.slice none 0 0) := by simp [sliceRow, h]
theorem boolRow_set {n : Nat} {f : Nat → Bool} {j : Nat} (v : Bool) : (boolRow n f).setIfInBounds j (.bool v) = boolRow n (fun b => if b = j then v else f b) := by
  apply Array.ext'
  simp only [boolRow, Array.toList_setIfInBounds, List.toList_toArray]
  apply List.ext_getElem?
  intro k
  rw [List.getElem?_set]
  simp only [List.length_map, List.length_range, List.getElem?_map]
  by_cases c : j = k
  · subst c
    by_cases h : j < n
    · simp [h, List.getElem?_range]
    · simp [h, List.getElem?_range]
  · rw [if_neg c]
    by_cases h : k < n
    · simp [List.getElem?_range, h, Ne.symm c]
    · simp [List.getElem?_range, h]
theorem sliceRow_set {n k : Nat} {rb : Nat → Nat} {b : Nat} (hk : k < n) (hb : rb k = b) : (sliceRow n k rb).setIfInBounds k (.slice (some ⟨b, 0, none⟩) n n) = sliceRow n (k + 1) rb := by
  subst hb
  apply Array.ext'
  simp only [sliceRow, Array.toList_setIfInBounds, List.toList_toArray]
  apply List.ext_getElem?
  intro q
  rw [List.getElem?_set]
  simp only [List.length_map, List.length_range, List.getElem?_map]
  by_cases c : k = q
  · subst c
    simp [hk, List.getElem?_range]
  · rw [if_neg c]
    by_cases h : q < n
    · simp only [List.getElem?_range h, Option.map_some]
      by_cases h2 : q < k
      · rw [if_pos h2, if_pos (by omega)]
      · rw [if_neg h2, if_neg (by omega)]
    · simp [List.getElem?_range, h]
/-- The first k rows are there. -/
structure Mat (w : World) (lo A n k : Nat) (rb : Nat → Nat) (M : Nat → Nat → Bool) : Prop where
  a : w.heap[A]? = some (.cells (sliceRow n k rb) 127)
  r : ∀ i, i < k → w.heap[rb i]? = some (.cells (boolRow n (M i)) 4)
  inj : ∀ i q, i < k → q < k → rb i = rb q → i = q
  ne : ∀ i, i < k → rb i ≠ A
  lo : lo ≤ A ∧ ∀ i, i < k → lo ≤ rb i
theorem Mat.keep {w w' : World} {lo A n k : Nat} {rb : Nat → Nat} {M : Nat → Nat → Bool} (h : Mat w lo A n k rb M) (hk : ∀ b, (b = A ∨ ∃ i, i < k ∧ b = rb i) → w'.heap[b]? = w.heap[b]?) : Mat w' lo A n k rb M :=
  ⟨(hk A (.inl rfl)).trans h.a, fun i hi => (hk _ (.inr ⟨i, hi, rfl⟩)).trans (h.r i hi), h.inj, h.ne, h.lo⟩
theorem Mat.lt {w : World} {lo A n k : Nat} {rb : Nat → Nat} {M : Nat → Nat → Bool} (h : Mat w lo A n k rb M) : A < w.heap.size ∧ ∀ i, i < k → rb i < w.heap.size :=
  ⟨(Array.getElem?_eq_some_iff.mp h.a).1, fun i hi => (Array.getElem?_eq_some_iff.mp (h.r i hi)).1⟩
theorem Mat.later {w w' : World} {lo A n k : Nat} {rb : Nat → Nat} {M : Nat → Nat → Bool} (h : Mat w lo A n k rb M) (hb : Below w.heap.size w w') : Mat w' lo A n k rb M :=
  h.keep fun b hb' => hb.block b (by rcases hb' with e | ⟨i, hi, e⟩ <;> rw [e]; exact h.lt.1; exact h.lt.2 i hi)
theorem Mat.congr {w : World} {lo A n k : Nat} {rb : Nat → Nat} {M M' : Nat → Nat → Bool} (h : Mat w lo A n k rb M) (he : ∀ i j, i < k → j < n → M i j = M' i j) : Mat w lo A n k rb M' :=
  ⟨h.a, fun i hi => by
    rw [h.r i hi]
    congr 2
    unfold boolRow
    congr 1
    apply List.map_congr_left
    intro j hj
    rw [he i j hi (List.mem_range.mp hj)], h.inj, h.ne, h.lo⟩
theorem Mat.mono {w : World} {lo lo2 A n k : Nat} {rb : Nat → Nat} {M : Nat → Nat → Bool} (h : Mat w lo A n k rb M) (hl : lo2 ≤ lo) : Mat w lo2 A n k rb M :=
  ⟨h.a, h.r, h.inj, h.ne, Nat.le_trans hl h.lo.1, fun i hi => Nat.le_trans hl (h.lo.2 i hi)⟩
theorem Mat.row {w : World} {lo A n k : Nat} {rb : Nat → Nat} {M : Nat → Nat → Bool} (h : Mat w lo A n k rb M) {i : Nat} (hi : i < k) (hn : i < n) : w.cell? ⟨A, i, none⟩ = some (.slice (some ⟨rb i, 0, none⟩) n n) :=
  cell_of h.a (by rw [sliceRow_at hn, if_pos hi])
theorem Mat.cell {w : World} {lo A n k : Nat} {rb : Nat → Nat} {M : Nat → Nat → Bool} (h : Mat w lo A n k rb M) {i j : Nat} (hi : i < k) (hj : j < n) : w.cell? ⟨rb i, j, none⟩ = some (.bool (M i j)) ∧ w.frozen? ⟨rb i, j, none⟩ = false :=
  ⟨cell_of (h.r i hi) (boolRow_at hj), frozen_of_row _ _ _ _ _ (h.r i hi)⟩
theorem Mat.set {w : World} {lo A n k : Nat} {rb : Nat → Nat} {M : Nat → Nat → Bool} (h : Mat w lo A n k rb M) {i : Nat} (hi : i < k) (j : Nat) (v : Bool) : Mat (w.setCell ⟨rb i, j, none⟩ (.bool v)) lo A n k rb (fun a b => if a = i ∧ b = j then v else M a b) := by
  rw [setCell_eq_setRow w (rb i) j _ _ _ _ (h.r i hi)]
  refine ⟨(setRow_other _ _ _ _ (Ne.symm (h.ne i hi))).trans h.a, fun q hq => ?_, h.inj, h.ne, h.lo⟩
  by_cases c : q = i
  · subst c
    rw [setRow_heap w (rb q) _ _ _ _ (h.r q hi), boolRow_set]
    congr 3
    funext b
    by_cases e : b = j <;> simp [e]
  · rw [setRow_other _ _ _ _ (fun e => c (h.inj q i hq hi e)), h.r q hq]
    congr 3
    funext b
    simp [c]
theorem Mat.below {w w' : World} {n₀ lo A n k : Nat} {rb : Nat → Nat} {M : Nat → Nat → Bool} {i j : Nat} {v : Value} (h : Mat w' lo A n k rb M) (hi : i < k) (hl : n₀ ≤ lo) (hb : Below n₀ w w') : Below n₀ w (w'.setCell ⟨rb i, j, none⟩ v) := by
  rw [setCell_eq_setRow w' (rb i) j _ _ _ _ (h.r i hi)]
  exact below_setRow hb (Nat.le_trans hl (h.lo.2 i hi)) _
/-- A new row. -/
theorem Mat.more {w w' : World} {lo A n k b : Nat} {rb : Nat → Nat} {M : Nat → Nat → Bool} (h : Mat w lo A n k rb M) (hk : k < n) (hlo : lo ≤ b) (hb : w.heap.size ≤ b) (hw : Below w.heap.size w w') (hr : w'.heap[b]? = some (.cells (boolRow n fun _ => false) 4)) :
    Mat (w'.setCell ⟨A, k, none⟩ (.slice (some ⟨b, 0, none⟩) n n)) lo A n (k + 1) (fun i => if i = k then b else rb i) (fun i j => if i = k then false else M i j) := by
  have h' := h.later hw
  have hlt := h.lt
  rw [setCell_eq_setRow w' A k _ _ _ _ h'.a]
  have hAb : A ≠ b := by have := hlt.1; omega
  refine ⟨?_, fun i hi => ?_, fun i q hi hq e => ?_, fun i hi => ?_, h.lo.1, fun i hi => ?_⟩
  · rw [setRow_heap w' A _ _ _ _ h'.a]
    have e : sliceRow n k rb = sliceRow n k (fun i => if i = k then b else rb i) := by
      unfold sliceRow
      congr 1
      apply List.map_congr_left
      intro q _
      by_cases c : q < k
      · rw [if_pos c, if_pos c]
        have : ¬ q = k := by omega
        simp only [this, if_false]
      · rw [if_neg c, if_neg c]
    rw [e, sliceRow_set hk (by simp)]
  · by_cases c : i = k
    · subst c
      simp only [if_true]
      rw [setRow_other _ _ _ _ (Ne.symm hAb)]
      exact hr
    · have hik : i < k := by omega
      simp only [if_neg c]
      rw [setRow_other _ _ _ _ (h.ne i hik)]
      exact h'.r i hik
  · by_cases c1 : i = k
    · by_cases c2 : q = k
      · omega
      · simp only [c1, if_true, if_neg c2] at e
        have := hlt.2 q (by omega); omega
    · by_cases c2 : q = k
      · simp only [c2, if_true, if_neg c1] at e
        have := hlt.2 i (by omega); omega
      · simp only [if_neg c1, if_neg c2] at e
        exact h.inj i q (by omega) (by omega) e
  · by_cases c : i = k
    · simp only [c, if_true]; exact Ne.symm hAb
    · simp only [if_neg c]; exact h.ne i (by omega)
  · by_cases c : i = k
    · simp only [c, if_true]; exact hlo
    · simp only [if_neg c]; exact h.lo.2 i (by omega)
theorem mat_new {w : World} {lo A n : Nat} (h : w.heap[A]? = some (.cells (List.replicate n (Value.slice none 0 0)).toArray 127 (0, 0))) (hl : lo ≤ A) : Mat w lo A n 0 (fun _ => 0) (fun _ _ => false) := by
  refine ⟨?_, fun i hi => by omega, fun i q hi => by omega, fun i hi => by omega, hl, fun i hi => by omega⟩
  rw [h]
  congr 2
  apply Array.ext'
  simp only [sliceRow, List.toList_toArray]
  apply List.ext_getElem?
  intro k
  by_cases c : k < n
  · simp [c, List.getElem?_range, List.getElem?_replicate]
  · simp [c, List.getElem?_range, List.getElem?_replicate]
theorem boolRow_new (n : Nat) : (List.replicate n (Value.bool false)).toArray = boolRow n fun _ => false := by
  apply Array.ext'
  simp only [boolRow, List.toList_toArray]
  apply List.ext_getElem?
  intro k
  by_cases c : k < n
  · simp [c, List.getElem?_range, List.getElem?_replicate]
  · simp [c, List.getElem?_range, List.getElem?_replicate]
theorem ix_row (A n : Nat) (j : Nat) (h : j < n) : ∀ wx, (Instr.indexAt 125 (.slice (some ⟨A, 0, none⟩) n n) (.int .i64 (j : Int))).run Tryz.prog wx = .ok (.pointer (some ⟨A, j, none⟩)) wx := by
  intro wx
  have u := Tryz.underlying125
  have z := Tryz.sizeOf127
  have q1 : (j : Int) < n := by omega
  have q2 : ¬ (j : Int) < 0 := by omega
  simp [Instr.indexAt, run_underlying u, asIntOf, go_sem, z, q1, q2, h]
theorem ix_bool (A n : Nat) (j : Nat) (h : j < n) : ∀ wx, (Instr.indexAt 127 (.slice (some ⟨A, 0, none⟩) n n) (.int .i64 (j : Int))).run Tryz.prog wx = .ok (.pointer (some ⟨A, j, none⟩)) wx := by
  intro wx
  have u := Tryz.underlying127
  have z := Tryz.sizeOf4
  have q1 : (j : Int) < n := by omega
  have q2 : ¬ (j : Int) < 0 := by omega
  simp [Instr.indexAt, run_underlying u, asIntOf, go_sem, z, q1, q2, h]
theorem infoBl : (Tryz.prog.info? 4).map (fun i => (i.zero, i.size, i.bytes)) = some (some (.bool false), 1, 1) := by kernel_rfl
theorem infoSb : (Tryz.prog.info? 127).map (fun i => (i.zero, i.size, i.bytes)) = some (some (.slice none 0 0), 1, 24) := by kernel_rfl
end Go.Proofs.YtafefnkgdnmjbaaGreatDoor.pg
/- The document's own Before: a matrix, column by column. -/
namespace Go.Proofs.YtafefnkgdnmjbaaGreatDoor.pg
open Go.ChangeShapes Go.WideShapes Go.ChangeAt Go.RowKit Go.Shelf
set_option linter.unusedVariables false
set_option linter.unusedSimpArgs false
set_option maxRecDepth 100000
attribute [local go_sem ↓] Go.wp_at_zero Go.wp_at_succ
/-- Columns below j are told; column j as far as C says. -/
def mj (B : Nat → Nat → Bool) (j : Nat) (C : Nat → Bool) (a b : Nat) : Bool := if b < j then B a b else if b = j then C a else false
theorem mj_at (B : Nat → Nat → Bool) (j : Nat) (C : Nat → Bool) (a : Nat) : mj B j C a j = C a := by unfold mj; rw [if_neg (by omega), if_pos rfl]
theorem mj_lt (B : Nat → Nat → Bool) {j b : Nat} (C : Nat → Bool) (a : Nat) (h : b < j) : mj B j C a b = B a b := by unfold mj; rw [if_pos h]
theorem mj_set (B : Nat → Nat → Bool) (j : Nat) (C : Nat → Bool) (i : Nat) (v : Bool) (a b : Nat) : (if a = i ∧ b = j then v else mj B j C a b) = mj B j (fun a => if a = i then v else C a) a b := by
  unfold mj
  by_cases hb : b = j
  · subst hb
    by_cases ha : a = i
    · subst ha; simp
    · simp [ha]
  · rw [if_neg (fun q => hb q.2), if_neg hb, if_neg hb]
theorem mj_next (B : Nat → Nat → Bool) (j : Nat) (C : Nat → Bool) (hC : ∀ a, C a = B a j) (a b : Nat) : mj B j C a b = mj B (j + 1) (fun _ => false) a b := by
  unfold mj
  by_cases h1 : b < j
  · rw [if_pos h1, if_pos (by omega)]
  · rw [if_neg h1]
    by_cases h2 : b = j
    · subst h2
      rw [if_pos rfl, if_pos (by omega), hC]
    · rw [if_neg h2, if_neg (by omega)]
      split <;> rfl
/-- Where the matrix stands in the walk. -/
structure RbS (w wr : World) (A n k : Nat) (rb : Nat → Nat) (M : Nat → Nat → Bool) : Prop where
  m : Mat wr w.heap.size A n k rb M
  b : Below w.heap.size w wr
theorem RbS.later {w wr w' : World} {A n k : Nat} {rb : Nat → Nat} {M : Nat → Nat → Bool} (h : RbS w wr A n k rb M) (hb : Below wr.heap.size wr w') : RbS w w' A n k rb M := ⟨h.m.later hb, bthen h.b hb⟩
theorem RbS.col {w wr : World} {A n : Nat} {rb : Nat → Nat} {B : Nat → Nat → Bool} {j : Nat} {C : Nat → Bool} (h : RbS w wr A n n rb (mj B j C)) {i : Nat} (hi : i < n) (v : Bool) : RbS w (wr.setCell ⟨rb i, j, none⟩ (.bool v)) A n n rb (mj B j fun a => if a = i then v else C a) :=
  ⟨(h.m.set hi j v).congr fun a b _ _ => mj_set B j C i v a b, h.m.below hi (Nat.le_refl _) h.b⟩
theorem RbS.cong {w wr : World} {A n : Nat} {rb : Nat → Nat} {M M' : Nat → Nat → Bool} (h : RbS w wr A n n rb M) (he : ∀ a b, M a b = M' a b) : RbS w wr A n n rb M' := ⟨h.m.congr fun a b _ _ => he a b, h.b⟩
/-- Column j, while what is ahead of i is brought in. -/
def c4 (d B : Nat → Nat → Bool) (j i k a : Nat) : Bool := if a = i then true else if a < k then (sB d B j (i + 1) a || B a i) else sB d B j (i + 1) a
theorem c4_end {d B : Nat → Nat → Bool} (hB : Tells d B) {i j : Nat} (hi : i < j) (hd : d i j = true) (a : Nat) : c4 d B j i i a = sB d B j i a := by
  unfold c4
  rw [sB_more hB hi hd a]
  by_cases h1 : a = i
  · subst h1; simp
  · have h2 : (a == i) = false := by simpa using h1
    rw [if_neg h1, h2, Bool.false_or]
    by_cases h3 : a < i
    · rw [if_pos h3]
    · rw [if_neg h3]
      have : B a i = false := by
        rw [Bool.eq_false_iff]
        intro q
        have := ((hB a i).mp q).lt
        omega
      rw [this, Bool.or_false]
theorem c4_start (d B : Nat → Nat → Bool) (j i a : Nat) : (if a = i then true else sB d B j (i + 1) a) = c4 d B j i 0 a := by
  unfold c4
  by_cases h1 : a = i
  · rw [if_pos h1, if_pos h1]
  · rw [if_neg h1, if_neg h1, if_neg (by omega)]
theorem c4_step (d B : Nat → Nat → Bool) (j i k a : Nat) (hk : k < i) : (if a = k then (sB d B j (i + 1) k || B k i) else c4 d B j i k a) = c4 d B j i (k + 1) a := by
  unfold c4
  by_cases h1 : a = k
  · subst h1
    rw [if_pos rfl, if_neg (by omega), if_pos (by omega)]
  · rw [if_neg h1]
    by_cases h2 : a = i
    · rw [if_pos h2, if_pos h2]
    · rw [if_neg h2, if_neg h2]
      by_cases h3 : a < k
      · rw [if_pos h3, if_pos (by omega)]
      · rw [if_neg h3, if_neg (by omega)]
theorem c4_at (d B : Nat → Nat → Bool) (j i k : Nat) (hk : k < i) : c4 d B j i k k = sB d B j (i + 1) k := by
  unfold c4
  rw [if_neg (by omega), if_neg (by omega)]
set_option maxHeartbeats 4000000 in
theorem rbef_any (l : List Ev) (la : Option Addr) (lc : Nat) (w : World) (hl : Rows w 26 la lc (l.map Ev.cells)) (hlen : l.length ≤ 256) (B : Nat → Nat → Bool) (hB : Tells (dpf l) B) :
    Calls Tryz.prog 69 #[.slice la l.length lc] w fun e w' => ∃ A rb, e = .returned (.slice (some ⟨A, 0, none⟩) l.length l.length) ∧ RbS w w' A l.length l.length rb B := by
  have hlI : (l.length : Int) ≤ 256 := by omega
  have hlH : Hid (Rows w 26 la lc (l.map Ev.cells)) := hl
  have hBH : Hid (Tells (dpf l) B) := hB
  obtain ⟨iB, hiB, hzB, hsB, hbB⟩ := info_q infoBl
  obtain ⟨iS, hiS, hzS, hsS, hbS⟩ := info_q infoSb
  have iBH : Hid (Tryz.prog.info? 4 = some iB ∧ iB.zero = some (.bool false) ∧ iB.size = 1 ∧ iB.bytes * l.length ≤ 281474976710656) := ⟨hiB, hzB, hsB, by rw [hbB]; omega⟩
  have iSH : Hid (Tryz.prog.info? 127 = some iS ∧ iS.zero = some (.slice none 0 0) ∧ iS.size = 1 ∧ iS.bytes * l.length ≤ 281474976710656) := ⟨hiS, hzS, hsS, by rw [hbS]; omega⟩
  have huE : Hid (Tryz.prog.underlying 69 = _) := Tryz.underlying69
  have hiE : Hid ((Tryz.prog.info? 69).map (·.size) = some 26) := infoE26
  clear hl hB hiB hzB hsB hbB hiS hzS hsS hbS
  go_enter Tryz.func69, Tryz.ntmps69
  go_wp2_with (first
    | (refine wpList_mk _ rfl _ _ 125 rfl 127 iS (.slice none 0 0) Tryz.underlying125 iSH.out.1 iSH.out.2.1 rfl iSH.out.2.2.1 l.length rfl rfl iSH.out.2.2.2 (by omega) ?_; intro W hwh hbW hsW))
  have s0 : Hid (RbS w W w.heap.size l.length 0 (fun _ => 0) fun _ _ => false) := ⟨mat_new hwh (Nat.le_refl _), hbW⟩
  clear hwh hbW hsW
  obtain ⟨A, hA⟩ : ∃ A, w.heap.size = A := ⟨_, rfl⟩
  rw [hA] at s0 ⊢
  clear hA
  go_loopw [5] (fun u wr => ∃ (k : Nat) (rb : Nat → Nat), k ≤ l.length ∧ u = .int .i64 k ∧ Hid (RbS w wr A l.length k rb fun _ _ => false)) (fun u _ => l.length - (intOf u).toNat)
  case atStart => exact ⟨0, _, Nat.zero_le _, rfl, s0⟩
  case round =>
    obtain ⟨k, rb, hk, rfl, hs⟩ := hrel
    clear s0
    by_cases hlt : k < l.length
    · have hkI : (k : Int) < l.length := by omega
      have xA := ix_row A l.length k hlt
      have nx : Hid (∀ W', W'.heap[wr.heap.size]? = some (.cells (List.replicate l.length (Value.bool false)).toArray 4 (0, 0)) → Below wr.heap.size wr W' → RbS w (W'.setCell ⟨A, k, none⟩ (.slice (some ⟨wr.heap.size, 0, none⟩) l.length l.length)) A l.length (k + 1) (fun i => if i = k then wr.heap.size else rb i) (fun _ _ => false)) := fun W' h1 h2 => by
        have hm := hs.out.m.more hlt (by have := hs.out.b.size; omega) (Nat.le_refl _) h2 (by rw [h1, boolRow_new])
        exact ⟨hm.congr fun i j _ _ => by split <;> rfl, by
          rw [setCell_eq_setRow W' A k _ _ _ _ (hs.out.m.later h2).a]
          exact below_setRow (bthen hs.out.b h2) hs.out.m.lo.1 _⟩
      have cl : Hid (∀ W', Below wr.heap.size wr W' → W'.cell? ⟨A, k, none⟩ = some (.slice none 0 0) ∧ W'.frozen? ⟨A, k, none⟩ = false) := fun W' h2 => by
        have h3 := (hs.out.m.later h2).a
        exact ⟨cell_of h3 (by rw [sliceRow_at hlt, if_neg (by omega)]), frozen_of_row _ _ _ _ _ h3⟩
      go_wp2_with (first
        | (refine wpList_mk _ rfl _ _ 127 rfl 4 iB (.bool false) Tryz.underlying127 iBH.out.1 iBH.out.2.1 rfl iBH.out.2.2.1 l.length rfl rfl iBH.out.2.2.2 (by omega) ?_; intro W1 hwh hbW hsW; (have hnew : Hid (RbS w (W1.setCell ⟨A, k, none⟩ (.slice (some ⟨wr.heap.size, 0, none⟩) l.length l.length)) A l.length (k + 1) (fun i => if i = k then wr.heap.size else rb i) (fun _ _ => false)) := nx.out W1 hwh hbW); (have hcl : Hid (W1.cell? ⟨A, k, none⟩ = some (.slice none 0 0) ∧ W1.frozen? ⟨A, k, none⟩ = false) := cl.out W1 hbW); clear hwh hbW hsW nx cl)
        | (refine wpList_puts rfl 127 _ _ rfl ⟨A, k, none⟩ rfl (some ⟨wr.heap.size, 0, none⟩) l.length l.length rfl (by kernel_rfl) _ hcl.out.1 hcl.out.2 ?_; intro W2 hW2; (have s2 : Hid (RbS w W2 A l.length (k + 1) (fun i => if i = k then wr.heap.size else rb i) (fun _ _ => false)) := by rw [hW2]; exact hnew.out); clear hW2 hnew hcl))
      go_roundw
      case rel => exact ⟨k + 1, _, by omega, by go_num, s2⟩
      case measure => simp [intOf]; omega
    · have hk2 : k = l.length := by omega
      subst hk2
      clear hlt hk
      have t0 : Hid (RbS w wr A l.length l.length rb (mj B 0 fun _ => false)) := hs.out.cong fun a b => by unfold mj; rw [if_neg (by omega)]; split <;> rfl
      clear hs
      go_wp2_with fail
      go_loopw [6] (fun u wq => ∃ j : Nat, j ≤ l.length ∧ u = .int .i64 j ∧ Hid (RbS w wq A l.length l.length rb (mj B j fun _ => false))) (fun u _ => l.length - (intOf u).toNat)
      case atStart => exact ⟨0, Nat.zero_le _, rfl, t0⟩
      case round =>
        rename World => wq
        obtain ⟨j, hj, rfl, hs⟩ := hrel
        clear t0
        by_cases hlt : j < l.length
        · have hjI : (j : Int) < l.length := by omega
          have hwj : wrap64 ((j : Int) - 1) = (j : Int) - 1 := by simp only [wrap64]; omega
          have t1 : Hid (RbS w wq A l.length l.length rb (mj B j (sB (dpf l) B j j))) := hs.out.cong fun a b => by
            unfold mj
            split
            · rfl
            · split
              · rw [sB_top hBH.out]
              · rfl
          clear hs
          go_wp2_with fail
          go_loopw [7] (fun u wv => ∃ m : Nat, m ≤ j ∧ u = .int .i64 ((m : Int) - 1) ∧ Hid (RbS w wv A l.length l.length rb (mj B j (sB (dpf l) B j m)))) (fun u _ => (intOf u + 1).toNat)
          case atStart => exact ⟨j, Nat.le_refl _, by first | rfl | rw [hwj], t1⟩
          case round =>
            rename World => wv
            obtain ⟨m, hm, rfl, hs⟩ := hrel
            clear t1
            cases m with
            | zero =>
              have t2 : Hid (RbS w wv A l.length l.length rb (mj B (j + 1) fun _ => false)) := hs.out.cong fun a b => mj_next B j _ (fun a => sB_zero hBH.out j a) a b
              clear hs
              go_wp2
              go_roundw
              case rel => exact ⟨j + 1, by omega, by go_num, t2⟩
              case measure => simp [intOf]; omega
            | succ i =>
              have hiI : ((i + 1 : Nat) : Int) - 1 = (i : Int) := by omega
              rw [hiI]
              have hi0 : (0 : Int) ≤ (i : Int) := by omega
              have hij : i < j := hm
              have hwi : wrap64 ((i : Int) - 1) = (i : Int) - 1 := by simp only [wrap64]; omega
              have xA := ix_row A l.length i (by omega)
              have xR := ix_bool (rb i) l.length j hlt
              obtain ⟨eb, eo, e1, e2, e3⟩ := ev_row (hlH.out.later hs.out.b) i _ (evf_at (l := l) (i := i) (by omega))
              obtain ⟨fb, fo, f1, f2, f3⟩ := ev_row (hlH.out.later hs.out.b) j _ (evf_at hlt)
              have z1 : ∀ q : Cls (Bey wv), q.w.cell? ⟨A, i, none⟩ = some (.slice (some ⟨rb i, 0, none⟩) l.length l.length) := fun q => (hs.out.m.later q.h).row (by omega) (by omega)
              have z2 : ∀ q : Cls (Bey wv), q.w.cell? ⟨rb i, j, none⟩ = some (.bool (sB (dpf l) B j (i + 1) i)) := fun q => by
                have := ((hs.out.m.later q.h).cell (i := i) (j := j) (by omega) hlt).1
                rwa [mj_at] at this
              have r1 : ∀ q : Cls (Bey wv), q.w.rangeAt eb eo (evf l i).cells := fun q => range_block e3 (q.h.block eb e2)
              have r2 : ∀ q : Cls (Bey wv), q.w.rangeAt fb fo (evf l j).cells := fun q => range_block f3 (q.h.block fb f2)
              have cD : ∀ q : Cls (Bey wv), Calls Tryz.prog 33 #[.agg (evf l i).cells.toArray, .agg (evf l j).cells.toArray] q.w fun e w' => e = .returned (.bool (dpf l i j)) ∧ Below q.w.heap.size q.w w' := fun q => rdependent_any _ _ q.w _ rfl
              have hne := bey_some wv
              clear e2 e3 f2 f3 hwj
              obtain ⟨P, hP⟩ : ∃ P, sB (dpf l) B j (i + 1) i = P := ⟨_, rfl⟩
              obtain ⟨D, hD⟩ : ∃ D, dpf l i j = D := ⟨_, rfl⟩
              rw [hP] at z2
              rw [hD] at cD
              have hPH : Hid (sB (dpf l) B j (i + 1) i = P ∧ dpf l i j = D) := ⟨hP, hD⟩
              clear hP hD
              cases P with
              | true =>
                have t2 : Hid (∀ W', Below wv.heap.size wv W' → RbS w W' A l.length l.length rb (mj B j (sB (dpf l) B j i))) := fun W' hb => (hs.out.later hb).cong fun a b => by
                  have e : sB (dpf l) B j i = sB (dpf l) B j (i + 1) := funext fun q => sB_keep hBH.out (.inl hPH.out.1) q
                  rw [e]
                go_wp2_with fail
                refine wp_region_cls (Bey wv) (by kernel_rfl) (by kernel_rfl) (bey_drew wv) ?_
                repeat (go_big_quiet_step (fail))
                refine wpQuiet_nil ?_
                intro _ hw'
                obtain ⟨sq, hw''⟩ := hw'
                subst hw''
                clear xA xR e1 f1 z1 z2 r1 r2 cD hne
                go_wp2
                go_roundw
                case rel => exact ⟨i, by omega, by first | rfl | go_num | rw [hwi], t2.out _ sq.h⟩
                case measure => simp [intOf]; try omega
              | false =>
                cases D with
                | false =>
                  have t2 : Hid (∀ W', Below wv.heap.size wv W' → RbS w W' A l.length l.length rb (mj B j (sB (dpf l) B j i))) := fun W' hb => (hs.out.later hb).cong fun a b => by
                    have e : sB (dpf l) B j i = sB (dpf l) B j (i + 1) := funext fun q => sB_keep hBH.out (.inr hPH.out.2) q
                    rw [e]
                  go_wp2_with fail
                  refine wp_region_cls (Bey wv) (by kernel_rfl) (by kernel_rfl) (bey_drew wv) ?_
                  repeat (first
                    | (go_big_quiet_want; (first | refine quiet_load_mid 69 _ rfl eb eo rfl _ _ r1 huE.out rfl hiE.out ?_ | refine quiet_load_mid 69 _ rfl fb fo rfl _ _ r2 huE.out rfl hiE.out ?_); (simp only [Act.put, List.setIfInBounds_toArray, List.set_cons_zero, List.set_cons_succ]); go_big_quiet_on)
                    | go_big_quiet_step ((go_at_call 33; exact calls_bey (cD _))))
                  refine wpQuiet_nil ?_
                  intro _ hw'
                  obtain ⟨sq, hw''⟩ := hw'
                  subst hw''
                  clear xA xR e1 f1 z1 z2 r1 r2 cD hne
                  go_wp2
                  go_roundw
                  case rel => exact ⟨i, by omega, by first | rfl | go_num | rw [hwi], t2.out _ sq.h⟩
                  case measure => simp [intOf]; try omega
                | true =>
                  go_wp2_with fail
                  refine wp_region_cls (Bey wv) (by kernel_rfl) (by kernel_rfl) (bey_drew wv) ?_
                  repeat (first
                    | (go_big_quiet_want; (first | refine quiet_load_mid 69 _ rfl eb eo rfl _ _ r1 huE.out rfl hiE.out ?_ | refine quiet_load_mid 69 _ rfl fb fo rfl _ _ r2 huE.out rfl hiE.out ?_); (simp only [Act.put, List.setIfInBounds_toArray, List.set_cons_zero, List.set_cons_succ]); go_big_quiet_on)
                    | go_big_quiet_step ((go_at_call 33; exact calls_bey (cD _))))
                  refine wpQuiet_nil ?_
                  intro _ hw'
                  obtain ⟨sq, hw''⟩ := hw'
                  subst hw''
                  clear e1 f1 z1 z2 r1 r2 cD hne
                  obtain ⟨W1, hW1⟩ : ∃ W1, W1 = sq.w := ⟨_, rfl⟩
                  have hs1 : Hid (RbS w W1 A l.length l.length rb (mj B j (sB (dpf l) B j (i + 1)))) := by show RbS _ _ _ _ _ _ _; rw [hW1]; exact hs.out.later sq.h
                  rw [← hW1]
                  clear hW1 hs
                  have z3 := hs1.out.m.row (i := i) (by omega) (by omega)
                  have z4 : Hid (W1.cell? ⟨rb i, j, none⟩ = some (.bool false) ∧ W1.frozen? ⟨rb i, j, none⟩ = false) := by
                    have := hs1.out.m.cell (i := i) (j := j) (by omega) hlt
                    rw [mj_at, hPH.out.1] at this
                    exact this
                  go_wp2_with (first
                    | (refine wpList_putb rfl 4 _ _ rfl ⟨rb i, j, none⟩ rfl true rfl (by kernel_rfl) _ z4.out.1 z4.out.2 ?_; intro W2 hW2; (have hs2 : Hid (RbS w W2 A l.length l.length rb (mj B j (c4 (dpf l) B j i 0))) := by (rw [hW2]; exact (hs1.out.col (by omega) true).cong fun a b => by (unfold mj; simp only [c4_start]))); clear hW2 hs1 z3 z4))
                  clear xA xR
                  go_loopw [8] (fun u wy => ∃ k : Nat, k ≤ i ∧ u = .int .i64 k ∧ Hid (RbS w wy A l.length l.length rb (mj B j (c4 (dpf l) B j i k)))) (fun u _ => i - (intOf u).toNat)
                  case atStart => exact ⟨0, Nat.zero_le _, rfl, hs2⟩
                  case round =>
                    rename World => wy
                    obtain ⟨k, hk, rfl, hs⟩ := hrel
                    clear hs2
                    by_cases hki : k < i
                    · have hkI : (k : Int) < i := by omega
                      have yA := ix_row A l.length k (by omega)
                      have yJ := ix_bool (rb k) l.length j hlt
                      have yI := ix_bool (rb k) l.length i (by omega)
                      have u1 := hs.out.m.row (i := k) (by omega) (by omega)
                      have u2 := hs.out.m.cell (i := k) (j := j) (by omega) hlt
                      have u3 := (hs.out.m.cell (i := k) (j := i) (by omega) (by omega)).1
                      rw [mj_at, c4_at _ _ _ _ _ hki] at u2
                      rw [mj_lt B _ _ hij] at u3
                      obtain ⟨u2a, u2b⟩ := u2
                      have nx : Hid (∀ W' v, Below wy.heap.size wy W' → v = (sB (dpf l) B j (i + 1) k || B k i) → RbS w (W'.setCell ⟨rb k, j, none⟩ (.bool v)) A l.length l.length rb (mj B j (c4 (dpf l) B j i (k + 1)))) := fun W' v hb hv => ((hs.out.later hb).col (by omega) v).cong fun a b => by
                        subst hv
                        unfold mj
                        simp only [c4_step (dpf l) B j i k _ hki]
                      clear hs
                      generalize sB (dpf l) B j (i + 1) k = P at *
                      generalize B k i = Q at *
                      generalize rb k = R at *
                      cases P with
                      | true =>
                        go_wp2_with fail
                        go_region
                        go_wp2
                        go_roundw
                        case rel => exact ⟨k + 1, by omega, by go_num, (nx.out wy true (Below.refl _ _) rfl).later (Below.refl _ _).drew⟩
                        case measure => simp [intOf]; omega
                      | false =>
                        go_wp2_with fail
                        go_region
                        go_wp2
                        go_roundw
                        case rel => exact ⟨k + 1, by omega, by go_num, (nx.out wy Q (Below.refl _ _) (Bool.false_or _).symm).later (Below.refl _ _).drew⟩
                        case measure => simp [intOf]; omega
                    · have hk2 : k = i := by omega
                      subst hk2
                      have t3 : Hid (RbS w wy A l.length l.length rb (mj B j (sB (dpf l) B j k))) := hs.out.cong fun a b => by
                        have e : c4 (dpf l) B j k k = sB (dpf l) B j k := funext fun q => c4_end hBH.out hij hPH.out.2 q
                        rw [e]
                      clear hs
                      go_wp2
                      go_roundw
                      case rel => exact ⟨k, by omega, by first | rfl | go_num | rw [hwi], t3⟩
                      case measure => simp [intOf]; try omega
        · have hj2 : j = l.length := by omega
          subst hj2
          go_wp2
          go_ret
          exact ⟨A, rb, rfl, hs.out.m.congr fun a b _ hb => mj_lt B _ a hb, hs.out.b⟩
end Go.Proofs.YtafefnkgdnmjbaaGreatDoor.pg
/- look of package order, of places that are wrong; and what every call that looks answers then. -/
namespace Go.Proofs.YtafefnkgdnmjbaaGreatDoor.pg
open Go.ChangeShapes Go.WideShapes Go.ChangeAt Go.RowKit Go.Shelf
set_option linter.unusedVariables false
set_option linter.unusedSimpArgs false
set_option maxRecDepth 100000
attribute [local go_sem ↓] Go.wp_at_zero Go.wp_at_succ
/-- What look tells of events and places that are not right. -/
def lookP (l : List Ev) (ps : List Int) (c : Int) : Prop := (checkP l c ∧ (c = 2 ∨ c = 7)) ∨ (checkP l 0 ∧ (256 < ps.length ∧ c = 2 ∨ ps.length ≤ 256 ∧ (∃ p ∈ ps, ¬ (0 ≤ p ∧ p < l.length)) ∧ c = 1))
def inR (l : List Ev) (p : Int) : Prop := 0 ≤ p ∧ p < l.length
theorem look_ex {l : List Ev} (ps : List Int) : (checkP l 0 ∧ ps.length ≤ 256 ∧ ∀ p ∈ ps, 0 ≤ p ∧ p < l.length) ∨ ∃ c, lookP l ps c := by
  obtain ⟨c, hc⟩ := check_ex l
  by_cases h0 : c = 0
  · subst h0
    by_cases h1 : ps.length ≤ 256
    · by_cases h2 : ∀ p ∈ ps, 0 ≤ p ∧ p < l.length
      · exact .inl ⟨hc, h1, h2⟩
      · right
        refine ⟨1, .inr ⟨hc, .inr ⟨h1, ?_, rfl⟩⟩⟩
        apply Classical.byContradiction
        intro q
        exact h2 fun p hp => Classical.byContradiction fun q2 => q ⟨p, hp, q2⟩
    · exact .inr ⟨2, .inr ⟨hc, .inl ⟨by omega, rfl⟩⟩⟩
  · exact .inr ⟨c, .inl ⟨hc, by rcases hc with ⟨_, q⟩ | ⟨_, _, q⟩ | ⟨_, _, q⟩ <;> omega⟩⟩
set_option maxHeartbeats 2000000 in
theorem look_long (l : List Ev) (la : Option Addr) (lc : Nat) (n : Nat) (pa : Option Addr) (pc : Nat) (w : World) (hl : Rows w 26 la lc (l.map Ev.cells)) (hc : checkP l 0) (hn : 256 < n) (hnI : (n : Int) ≤ 9223372036854775807) :
    Calls Tryz.prog 79 #[.slice la l.length lc, .slice pa n pc] w fun e w' => e = .returned (.tuple #[relZ, .int .i64 2]) ∧ Below w.heap.size w w' := by
  have c1 : ∀ wx, Below w.heap.size w wx → Calls Tryz.prog 86 #[.slice la l.length lc] wx fun e w' => e = .returned (.int .i64 0) ∧ Below wx.heap.size wx w' := fun wx hb => check_any l la lc wx (hl.later hb) 0 hc
  have hlI := rows_len hl
  have hnI2 : (256 : Int) < n := by omega
  have bx := boxed w (.cells #[.slice none 0 0, .slice none 0 0, .slice none 0 0] 138)
  have hn := heap_alloc_new w (.cells #[.slice none 0 0, .slice none 0 0, .slice none 0 0] 138)
  clear hl hc
  go_enter Tryz.func79, Tryz.ntmps79
  go_wp2_with (first
    | (go_at_call 86; (with_reducible refine (c1 _ bx).mono ?_); rintro e w1 ⟨rfl, hb1⟩; (have hn1 : Hid (w1.heap[w.heap.size]? = some (.cells #[.slice none 0 0, .slice none 0 0, .slice none 0 0] 138)) := (hb1.block _ (by rw [World.size_alloc]; omega)).trans hn); (have hbw1 : Hid (Below w.heap.size w w1) := bthen bx hb1); clear hb1 c1 bx hn)
    | (refine wpList_store_row rfl 138 _ _ rfl w.heap.size _ rfl rfl _ _ hn1.out infoR rfl (one3 _ _ _ _ _ _ _ _ _) ?_))
  exact bodyPost_ret (results_rel Tryz.results79 _ _ w.heap.size #[.slice none 0 0, .slice none 0 0, .slice none 0 0] _ rfl rfl rfl (setRow_heap _ w.heap.size _ _ _ _ hn1.out)) rfl ⟨rfl, below_setRow hbw1.out (Nat.le_refl _) _⟩
set_option maxHeartbeats 2000000 in
theorem look_out (l : List Ev) (la : Option Addr) (lc : Nat) (ps : List Int) (pa : Option Addr) (pc : Nat) (w : World) (hl : Rows w 26 la lc (l.map Ev.cells)) (hp : Rows w 1 pa pc (ps.map chCells)) (hc : checkP l 0) (hps : ps.length ≤ 256) (hin : ∃ p ∈ ps, ¬ (0 ≤ p ∧ p < l.length)) :
    Calls Tryz.prog 79 #[.slice la l.length lc, .slice pa ps.length pc] w fun e w' => e = .returned (.tuple #[relZ, .int .i64 1]) ∧ Below w.heap.size w w' := by
  have c1 : ∀ wx, Below w.heap.size w wx → Calls Tryz.prog 86 #[.slice la l.length lc] wx fun e w' => e = .returned (.int .i64 0) ∧ Below wx.heap.size wx w' := fun wx hb => check_any l la lc wx (hl.later hb) 0 hc
  have hlI := rows_len hl
  have hpI := rows_len hp
  have hpH : Hid (Rows w 1 pa pc (ps.map chCells)) := hp
  have hinH : Hid (∃ p ∈ ps, ¬ (0 ≤ p ∧ p < l.length)) := hin
  have hpI2 : ¬ (256 : Int) < ps.length := by omega
  have bx := boxed w (.cells #[.slice none 0 0, .slice none 0 0, .slice none 0 0] 138)
  have hn := heap_alloc_new w (.cells #[.slice none 0 0, .slice none 0 0, .slice none 0 0] 138)
  clear hl hp hin hc
  go_enter Tryz.func79, Tryz.ntmps79
  go_wp2_with (first
    | (go_at_call 86; (with_reducible refine (c1 _ bx).mono ?_); rintro e w1 ⟨rfl, hb1⟩))
  have hbw1 : Hid (Below w.heap.size w w1) := bthen bx hb1
  have hn1 : Hid (w1.heap[w.heap.size]? = some (.cells #[.slice none 0 0, .slice none 0 0, .slice none 0 0] 138)) := (hb1.block _ (by rw [World.size_alloc]; omega)).trans hn
  clear c1 bx hn hb1
  go_loopw [23] (fun u wr => ∃ k : Nat, k ≤ ps.length ∧ u = .int .i64 k ∧ wr = w1 ∧ Hid (∀ p ∈ ps.take k, 0 ≤ p ∧ p < l.length)) (fun u _ => ps.length - (intOf u).toNat)
  case atStart => exact ⟨0, Nat.zero_le _, rfl, rfl, fun p hp => by simp at hp⟩
  case round =>
    obtain ⟨k, hk, rfl, rfl, hall⟩ := hrel
    by_cases hlt : k < ps.length
    · obtain ⟨y, hy, hym⟩ := get_lt ps k hlt
      obtain ⟨b1, o1, hix1, hbl1, c1⟩ := ch_ix (hpH.out.later hbw1.out) k y hy
      have hkI : (k : Int) < ps.length := by omega
      have hmore : Hid (0 ≤ y ∧ y < l.length → ∀ p ∈ ps.take (k + 1), 0 ≤ p ∧ p < l.length) := fun q p hp => by
        rw [take_one ps k y hy, List.mem_append, List.mem_singleton] at hp
        rcases hp with hp | rfl
        · exact hall.out p hp
        · exact q
      clear hall hy hym
      by_cases y0 : y < 0
      · go_wp2_with (first
          | (refine wpList_store_row rfl 138 _ _ rfl w.heap.size _ rfl rfl _ _ hn1.out infoR rfl (one3 _ _ _ _ _ _ _ _ _) ?_))
        exact bodyPost_ret (results_rel Tryz.results79 _ _ w.heap.size #[.slice none 0 0, .slice none 0 0, .slice none 0 0] _ rfl rfl rfl (setRow_heap _ w.heap.size _ _ _ _ hn1.out)) rfl ⟨rfl, below_setRow hbw1.out (Nat.le_refl _) _⟩
      · have y0d : decide (y < 0) = false := by simpa using y0
        by_cases y1 : (l.length : Int) ≤ y
        · clear y0
          go_wp2_with (first
            | (refine wpList_store_row rfl 138 _ _ rfl w.heap.size _ rfl rfl _ _ hn1.out infoR rfl (one3 _ _ _ _ _ _ _ _ _) ?_))
          exact bodyPost_ret (results_rel Tryz.results79 _ _ w.heap.size #[.slice none 0 0, .slice none 0 0, .slice none 0 0] _ rfl rfl rfl (setRow_heap _ w.heap.size _ _ _ _ hn1.out)) rfl ⟨rfl, below_setRow hbw1.out (Nat.le_refl _) _⟩
        · have hm2 : Hid (∀ p ∈ ps.take (k + 1), 0 ≤ p ∧ p < l.length) := hmore.out ⟨by omega, by omega⟩
          go_wp2
          go_roundw
          case rel => exact ⟨k + 1, by omega, by go_num, trivial, hm2⟩
          case measure => simp [intOf]; omega
    · exfalso
      have hk2 : k = ps.length := by omega
      subst hk2
      rw [List.take_length] at hall
      obtain ⟨p, hp, hq⟩ := hinH.out
      exact hq (hall.out p hp)
/-- look, of whatever is wrong. -/
theorem look_err (l : List Ev) (la : Option Addr) (lc : Nat) (ps : List Int) (pa : Option Addr) (pc : Nat) (w : World) (hl : Rows w 26 la lc (l.map Ev.cells)) (hp : Rows w 1 pa pc (ps.map chCells)) (c : Int) (hc : lookP l ps c) :
    Calls Tryz.prog 79 #[.slice la l.length lc, .slice pa ps.length pc] w fun e w' => e = .returned (.tuple #[relZ, .int .i64 c]) ∧ Below w.heap.size w w' := by
  rcases hc with ⟨h1, h2⟩ | ⟨h0, ⟨h1, rfl⟩ | ⟨h1, h2, rfl⟩⟩
  · exact look_bad l la lc _ w hl c h1 h2
  · exact look_long l la lc ps.length pa pc w hl h0 h1 (rows_len hp)
  · exact look_out l la lc ps pa pc w hl hp h0 h1 h2
theorem lookP_c {l : List Ev} {ps : List Int} {c : Int} (h : lookP l ps c) : c = 1 ∨ c = 2 ∨ c = 7 := by
  rcases h with ⟨_, h | h⟩ | ⟨_, ⟨_, h⟩ | ⟨_, _, h⟩⟩ <;> omega
/-- One or two places, laid for a call. -/
theorem rows_ij (w : World) (i j : Int) : Rows (w.alloc (.cells #[.int .i64 i, .int .i64 j] 3)) 1 (some ⟨w.heap.size, 0, none⟩) 2 (([i, j]).map chCells) := by
  have hn := heap_alloc_new w (.cells #[.int .i64 i, .int .i64 j] 3)
  refine ⟨by simp, by omega, by simp, .inr ⟨_, _, rfl, by rw [World.size_alloc]; omega, fun k row hk => ?_⟩⟩
  match k with
  | 0 => simp [chCells] at hk; subst hk; refine ⟨rfl, fun q u hq => ?_⟩; match q with
    | 0 => simp at hq; subst hq; exact cell_of hn rfl
    | q + 1 => simp at hq
  | 1 => simp [chCells] at hk; subst hk; refine ⟨rfl, fun q u hq => ?_⟩; match q with
    | 0 => simp at hq; subst hq; exact cell_of hn rfl
    | q + 1 => simp at hq
  | k + 2 => simp at hk
theorem rows_one1 (w : World) (i : Int) : Rows (w.alloc (.cells #[.int .i64 i] 3)) 1 (some ⟨w.heap.size, 0, none⟩) 1 (([i]).map chCells) := by
  have hn := heap_alloc_new w (.cells #[.int .i64 i] 3)
  refine ⟨by simp, by omega, by simp, .inr ⟨_, _, rfl, by rw [World.size_alloc]; omega, fun k row hk => ?_⟩⟩
  match k with
  | 0 => simp [chCells] at hk; subst hk; refine ⟨rfl, fun q u hq => ?_⟩; match q with
    | 0 => simp at hq; subst hq; exact cell_of hn rfl
    | q + 1 => simp at hq
  | k + 1 => simp at hk
end Go.Proofs.YtafefnkgdnmjbaaGreatDoor.pg
