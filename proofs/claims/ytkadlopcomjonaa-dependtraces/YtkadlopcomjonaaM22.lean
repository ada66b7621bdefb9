/- A matrix of truths: the block of its rows, and each row's block. -/
import Derived.Test.YtkadlopcomjonaaM18
import Derived.BigRegion
import Derived.Test.YtkadlopcomjonaaM21
namespace Go.Proofs.Ytkadlopcomjonaa.pg
open Go.ChangeShapes Go.WideShapes Go.ChangeAt Go.RowKit Go.Shelf
set_option linter.unusedVariables false
set_option linter.unusedSimpArgs false
set_option maxRecDepth 100000
def boolRow (n : Nat) (f : Nat → Bool) : Array Value := ((List.range n).map fun j => Value.bool (f j)).toArray
def sliceRow (n k : Nat) (rb : Nat → Nat) : Array Value := ((List.range n).map fun i => if i < k then Value.slice (some ⟨rb i, 0, none⟩) n n else Value.slice none 0 0).toArray
theorem boolRow_at {n : Nat} {f : Nat → Bool} {j : Nat} (h : j < n) : (boolRow n f)[j]? = some (.bool (f j)) := by simp [boolRow, h]
theorem sliceRow_at {n k : Nat} {rb : Nat → Nat} {i : Nat} (h : i < n) : (sliceRow n k rb)[i]? = some (if i < k then Value.slice (some ⟨rb i, 0, none⟩) n n else Value.slice none 0 0) := by simp [sliceRow, h]
theorem boolRow_set {n : Nat} {f : Nat → Bool} {j : Nat} (v : Bool) : (boolRow n f).setIfInBounds j (.bool v) = boolRow n (fun b => if b = j then v else f b) := by
  apply Array.ext'
  simp only [boolRow, Array.toList_setIfInBounds, List.toList_toArray]
  apply List.ext_getElem?
  intro k
  rw [List.getElem?_set]
  simp only [List.length_map, List.length_range, List.getElem?_map]
  by_cases c : j = k
  · subst c
    by_cases h : j < n
    · simp [h, List.getElem?_range]
    · simp [h, List.getElem?_range]
  · rw [if_neg c]
    by_cases h : k < n
    · simp [List.getElem?_range, h, Ne.symm c]
    · simp [List.getElem?_range, h]
theorem sliceRow_set {n k : Nat} {rb : Nat → Nat} {b : Nat} (hk : k < n) (hb : rb k = b) : (sliceRow n k rb).setIfInBounds k (.slice (some ⟨b, 0, none⟩) n n) = sliceRow n (k + 1) rb := by
  subst hb
  apply Array.ext'
  simp only [sliceRow, Array.toList_setIfInBounds, List.toList_toArray]
  apply List.ext_getElem?
  intro q
  rw [List.getElem?_set]
  simp only [List.length_map, List.length_range, List.getElem?_map]
  by_cases c : k = q
  · subst c
    simp [hk, List.getElem?_range]
  · rw [if_neg c]
    by_cases h : q < n
    · simp only [List.getElem?_range h, Option.map_some]
      by_cases h2 : q < k
      · rw [if_pos h2, if_pos (by omega)]
      · rw [if_neg h2, if_neg (by omega)]
    · simp [List.getElem?_range, h]
/-- The first k rows are there. -/
structure Mat (w : World) (lo A n k : Nat) (rb : Nat → Nat) (M : Nat → Nat → Bool) : Prop where
  a : w.heap[A]? = some (.cells (sliceRow n k rb) 36)
  r : ∀ i, i < k → w.heap[rb i]? = some (.cells (boolRow n (M i)) 4)
  inj : ∀ i q, i < k → q < k → rb i = rb q → i = q
  ne : ∀ i, i < k → rb i ≠ A
  lo : lo ≤ A ∧ ∀ i, i < k → lo ≤ rb i
theorem Mat.keep {w w' : World} {lo A n k : Nat} {rb : Nat → Nat} {M : Nat → Nat → Bool} (h : Mat w lo A n k rb M) (hk : ∀ b, (b = A ∨ ∃ i, i < k ∧ b = rb i) → w'.heap[b]? = w.heap[b]?) : Mat w' lo A n k rb M :=
  ⟨(hk A (.inl rfl)).trans h.a, fun i hi => (hk _ (.inr ⟨i, hi, rfl⟩)).trans (h.r i hi), h.inj, h.ne, h.lo⟩
theorem Mat.lt {w : World} {lo A n k : Nat} {rb : Nat → Nat} {M : Nat → Nat → Bool} (h : Mat w lo A n k rb M) : A < w.heap.size ∧ ∀ i, i < k → rb i < w.heap.size :=
  ⟨(Array.getElem?_eq_some_iff.mp h.a).1, fun i hi => (Array.getElem?_eq_some_iff.mp (h.r i hi)).1⟩
theorem Mat.later {w w' : World} {lo A n k : Nat} {rb : Nat → Nat} {M : Nat → Nat → Bool} (h : Mat w lo A n k rb M) (hb : Below w.heap.size w w') : Mat w' lo A n k rb M :=
  h.keep fun b hb' => hb.block b (by rcases hb' with e | ⟨i, hi, e⟩ <;> rw [e]; exact h.lt.1; exact h.lt.2 i hi)
theorem Mat.congr {w : World} {lo A n k : Nat} {rb : Nat → Nat} {M M' : Nat → Nat → Bool} (h : Mat w lo A n k rb M) (he : ∀ i j, i < k → j < n → M i j = M' i j) : Mat w lo A n k rb M' :=
  ⟨h.a, fun i hi => by
    rw [h.r i hi]
    congr 2
    unfold boolRow
    congr 1
    apply List.map_congr_left
    intro j hj
    rw [he i j hi (List.mem_range.mp hj)], h.inj, h.ne, h.lo⟩
theorem Mat.mono {w : World} {lo lo2 A n k : Nat} {rb : Nat → Nat} {M : Nat → Nat → Bool} (h : Mat w lo A n k rb M) (hl : lo2 ≤ lo) : Mat w lo2 A n k rb M :=
  ⟨h.a, h.r, h.inj, h.ne, Nat.le_trans hl h.lo.1, fun i hi => Nat.le_trans hl (h.lo.2 i hi)⟩
theorem Mat.row {w : World} {lo A n k : Nat} {rb : Nat → Nat} {M : Nat → Nat → Bool} (h : Mat w lo A n k rb M) {i : Nat} (hi : i < k) (hn : i < n) : w.cell? ⟨A, i, none⟩ = some (.slice (some ⟨rb i, 0, none⟩) n n) :=
  cell_of h.a (by rw [sliceRow_at hn, if_pos hi])
theorem Mat.cell {w : World} {lo A n k : Nat} {rb : Nat → Nat} {M : Nat → Nat → Bool} (h : Mat w lo A n k rb M) {i j : Nat} (hi : i < k) (hj : j < n) : w.cell? ⟨rb i, j, none⟩ = some (.bool (M i j)) ∧ w.frozen? ⟨rb i, j, none⟩ = false :=
  ⟨cell_of (h.r i hi) (boolRow_at hj), frozen_of_row _ _ _ _ _ (h.r i hi)⟩
theorem Mat.set {w : World} {lo A n k : Nat} {rb : Nat → Nat} {M : Nat → Nat → Bool} (h : Mat w lo A n k rb M) {i : Nat} (hi : i < k) (j : Nat) (v : Bool) : Mat (w.setCell ⟨rb i, j, none⟩ (.bool v)) lo A n k rb (fun a b => if a = i ∧ b = j then v else M a b) := by
  rw [setCell_eq_setRow w (rb i) j _ _ _ _ (h.r i hi)]
  refine ⟨(setRow_other _ _ _ _ (Ne.symm (h.ne i hi))).trans h.a, fun q hq => ?_, h.inj, h.ne, h.lo⟩
  by_cases c : q = i
  · subst c
    rw [setRow_heap w (rb q) _ _ _ _ (h.r q hi), boolRow_set]
    congr 3
    funext b
    by_cases e : b = j <;> simp [e]
  · rw [setRow_other _ _ _ _ (fun e => c (h.inj q i hq hi e)), h.r q hq]
    congr 3
    funext b
    simp [c]
theorem Mat.below {w w' : World} {n₀ lo A n k : Nat} {rb : Nat → Nat} {M : Nat → Nat → Bool} {i j : Nat} {v : Value} (h : Mat w' lo A n k rb M) (hi : i < k) (hl : n₀ ≤ lo) (hb : Below n₀ w w') : Below n₀ w (w'.setCell ⟨rb i, j, none⟩ v) := by
  rw [setCell_eq_setRow w' (rb i) j _ _ _ _ (h.r i hi)]
  exact below_setRow hb (Nat.le_trans hl (h.lo.2 i hi)) _
/-- A new row. -/
theorem Mat.more {w w' : World} {lo A n k b : Nat} {rb : Nat → Nat} {M : Nat → Nat → Bool} (h : Mat w lo A n k rb M) (hk : k < n) (hlo : lo ≤ b) (hb : w.heap.size ≤ b) (hw : Below w.heap.size w w') (hr : w'.heap[b]? = some (.cells (boolRow n fun _ => false) 4)) :
    Mat (w'.setCell ⟨A, k, none⟩ (.slice (some ⟨b, 0, none⟩) n n)) lo A n (k + 1) (fun i => if i = k then b else rb i) (fun i j => if i = k then false else M i j) := by
  have h' := h.later hw
  have hlt := h.lt
  rw [setCell_eq_setRow w' A k _ _ _ _ h'.a]
  have hAb : A ≠ b := by have := hlt.1; omega
  refine ⟨?_, fun i hi => ?_, fun i q hi hq e => ?_, fun i hi => ?_, h.lo.1, fun i hi => ?_⟩
  · rw [setRow_heap w' A _ _ _ _ h'.a]
    have e : sliceRow n k rb = sliceRow n k (fun i => if i = k then b else rb i) := by
      unfold sliceRow
      congr 1
      apply List.map_congr_left
      intro q _
      by_cases c : q < k
      · rw [if_pos c, if_pos c]
        have : ¬ q = k := by omega
        simp only [this, if_false]
      · rw [if_neg c, if_neg c]
    rw [e, sliceRow_set hk (by simp)]
  · by_cases c : i = k
    · subst c
      simp only [if_true]
      rw [setRow_other _ _ _ _ (Ne.symm hAb)]
      exact hr
    · have hik : i < k := by omega
      simp only [if_neg c]
      rw [setRow_other _ _ _ _ (h.ne i hik)]
      exact h'.r i hik
  · by_cases c1 : i = k
    · by_cases c2 : q = k
      · omega
      · simp only [c1, if_true, if_neg c2] at e
        have := hlt.2 q (by omega); omega
    · by_cases c2 : q = k
      · simp only [c2, if_true, if_neg c1] at e
        have := hlt.2 i (by omega); omega
      · simp only [if_neg c1, if_neg c2] at e
        exact h.inj i q (by omega) (by omega) e
  · by_cases c : i = k
    · simp only [c, if_true]; exact Ne.symm hAb
    · simp only [if_neg c]; exact h.ne i (by omega)
  · by_cases c : i = k
    · simp only [c, if_true]; exact hlo
    · simp only [if_neg c]; exact h.lo.2 i (by omega)
theorem mat_new {w : World} {lo A n : Nat} (h : w.heap[A]? = some (.cells (List.replicate n (Value.slice none 0 0)).toArray 36 (0, 0))) (hl : lo ≤ A) : Mat w lo A n 0 (fun _ => 0) (fun _ _ => false) := by
  refine ⟨?_, fun i hi => by omega, fun i q hi => by omega, fun i hi => by omega, hl, fun i hi => by omega⟩
  rw [h]
  congr 2
  apply Array.ext'
  simp only [sliceRow, List.toList_toArray]
  apply List.ext_getElem?
  intro k
  by_cases c : k < n
  · simp [c, List.getElem?_range, List.getElem?_replicate]
  · simp [c, List.getElem?_range, List.getElem?_replicate]
theorem boolRow_new (n : Nat) : (List.replicate n (Value.bool false)).toArray = boolRow n fun _ => false := by
  apply Array.ext'
  simp only [boolRow, List.toList_toArray]
  apply List.ext_getElem?
  intro k
  by_cases c : k < n
  · simp [c, List.getElem?_range, List.getElem?_replicate]
  · simp [c, List.getElem?_range, List.getElem?_replicate]
theorem ix_row (A n : Nat) (j : Nat) (h : j < n) : ∀ wx, (Instr.indexAt 25 (.slice (some ⟨A, 0, none⟩) n n) (.int .i64 (j : Int))).run Try.prog wx = .ok (.pointer (some ⟨A, j, none⟩)) wx := by
  intro wx
  have u := Try.underlying25
  have z := Try.sizeOf36
  have q1 : (j : Int) < n := by omega
  have q2 : ¬ (j : Int) < 0 := by omega
  simp [Instr.indexAt, run_underlying u, asIntOf, go_sem, z, q1, q2, h]
theorem ix_bool (A n : Nat) (j : Nat) (h : j < n) : ∀ wx, (Instr.indexAt 36 (.slice (some ⟨A, 0, none⟩) n n) (.int .i64 (j : Int))).run Try.prog wx = .ok (.pointer (some ⟨A, j, none⟩)) wx := by
  intro wx
  have u := Try.underlying36
  have z := Try.sizeOf4
  have q1 : (j : Int) < n := by omega
  have q2 : ¬ (j : Int) < 0 := by omega
  simp [Instr.indexAt, run_underlying u, asIntOf, go_sem, z, q1, q2, h]
theorem infoBl : (Try.prog.info? 4).map (fun i => (i.zero, i.size, i.bytes)) = some (some (.bool false), 1, 1) := by kernel_rfl
theorem infoSb : (Try.prog.info? 36).map (fun i => (i.zero, i.size, i.bytes)) = some (some (.slice none 0 0), 1, 24) := by kernel_rfl
end Go.Proofs.Ytkadlopcomjonaa.pg
/- The document's own Before: a matrix, column by column. -/
namespace Go.Proofs.Ytkadlopcomjonaa.pg
open Go.ChangeShapes Go.WideShapes Go.ChangeAt Go.RowKit Go.Shelf
set_option linter.unusedVariables false
set_option linter.unusedSimpArgs false
set_option maxRecDepth 100000
attribute [local go_sem ↓] Go.wp_at_zero Go.wp_at_succ
/-- Columns below j are told; column j as far as C says. -/
def mj (B : Nat → Nat → Bool) (j : Nat) (C : Nat → Bool) (a b : Nat) : Bool := if b < j then B a b else if b = j then C a else false
theorem mj_at (B : Nat → Nat → Bool) (j : Nat) (C : Nat → Bool) (a : Nat) : mj B j C a j = C a := by unfold mj; rw [if_neg (by omega), if_pos rfl]
theorem mj_lt (B : Nat → Nat → Bool) {j b : Nat} (C : Nat → Bool) (a : Nat) (h : b < j) : mj B j C a b = B a b := by unfold mj; rw [if_pos h]
theorem mj_set (B : Nat → Nat → Bool) (j : Nat) (C : Nat → Bool) (i : Nat) (v : Bool) (a b : Nat) : (if a = i ∧ b = j then v else mj B j C a b) = mj B j (fun a => if a = i then v else C a) a b := by
  unfold mj
  by_cases hb : b = j
  · subst hb
    by_cases ha : a = i
    · subst ha; simp
    · simp [ha]
  · rw [if_neg (fun q => hb q.2), if_neg hb, if_neg hb]
theorem mj_next (B : Nat → Nat → Bool) (j : Nat) (C : Nat → Bool) (hC : ∀ a, C a = B a j) (a b : Nat) : mj B j C a b = mj B (j + 1) (fun _ => false) a b := by
  unfold mj
  by_cases h1 : b < j
  · rw [if_pos h1, if_pos (by omega)]
  · rw [if_neg h1]
    by_cases h2 : b = j
    · subst h2
      rw [if_pos rfl, if_pos (by omega), hC]
    · rw [if_neg h2, if_neg (by omega)]
      split <;> rfl
/-- Where the matrix stands in the walk. -/
structure RbS (w wr : World) (A n k : Nat) (rb : Nat → Nat) (M : Nat → Nat → Bool) : Prop where
  m : Mat wr w.heap.size A n k rb M
  b : Below w.heap.size w wr
theorem RbS.later {w wr w' : World} {A n k : Nat} {rb : Nat → Nat} {M : Nat → Nat → Bool} (h : RbS w wr A n k rb M) (hb : Below wr.heap.size wr w') : RbS w w' A n k rb M := ⟨h.m.later hb, bthen h.b hb⟩
theorem RbS.col {w wr : World} {A n : Nat} {rb : Nat → Nat} {B : Nat → Nat → Bool} {j : Nat} {C : Nat → Bool} (h : RbS w wr A n n rb (mj B j C)) {i : Nat} (hi : i < n) (v : Bool) : RbS w (wr.setCell ⟨rb i, j, none⟩ (.bool v)) A n n rb (mj B j fun a => if a = i then v else C a) :=
  ⟨(h.m.set hi j v).congr fun a b _ _ => mj_set B j C i v a b, h.m.below hi (Nat.le_refl _) h.b⟩
theorem RbS.cong {w wr : World} {A n : Nat} {rb : Nat → Nat} {M M' : Nat → Nat → Bool} (h : RbS w wr A n n rb M) (he : ∀ a b, M a b = M' a b) : RbS w wr A n n rb M' := ⟨h.m.congr fun a b _ _ => he a b, h.b⟩
/-- Column j, while what is ahead of i is brought in. -/
def c4 (d B : Nat → Nat → Bool) (j i k a : Nat) : Bool := if a = i then true else if a < k then (sB d B j (i + 1) a || B a i) else sB d B j (i + 1) a
theorem c4_end {d B : Nat → Nat → Bool} (hB : Tells d B) {i j : Nat} (hi : i < j) (hd : d i j = true) (a : Nat) : c4 d B j i i a = sB d B j i a := by
  unfold c4
  rw [sB_more hB hi hd a]
  by_cases h1 : a = i
  · subst h1; simp
  · have h2 : (a == i) = false := by simpa using h1
    rw [if_neg h1, h2, Bool.false_or]
    by_cases h3 : a < i
    · rw [if_pos h3]
    · rw [if_neg h3]
      have : B a i = false := by
        rw [Bool.eq_false_iff]
        intro q
        have := ((hB a i).mp q).lt
        omega
      rw [this, Bool.or_false]
theorem c4_start (d B : Nat → Nat → Bool) (j i a : Nat) : (if a = i then true else sB d B j (i + 1) a) = c4 d B j i 0 a := by
  unfold c4
  by_cases h1 : a = i
  · rw [if_pos h1, if_pos h1]
  · rw [if_neg h1, if_neg h1, if_neg (by omega)]
theorem c4_step (d B : Nat → Nat → Bool) (j i k a : Nat) (hk : k < i) : (if a = k then (sB d B j (i + 1) k || B k i) else c4 d B j i k a) = c4 d B j i (k + 1) a := by
  unfold c4
  by_cases h1 : a = k
  · subst h1
    rw [if_pos rfl, if_neg (by omega), if_pos (by omega)]
  · rw [if_neg h1]
    by_cases h2 : a = i
    · rw [if_pos h2, if_pos h2]
    · rw [if_neg h2, if_neg h2]
      by_cases h3 : a < k
      · rw [if_pos h3, if_pos (by omega)]
      · rw [if_neg h3, if_neg (by omega)]
theorem c4_at (d B : Nat → Nat → Bool) (j i k : Nat) (hk : k < i) : c4 d B j i k k = sB d B j (i + 1) k := by
  unfold c4
  rw [if_neg (by omega), if_neg (by omega)]
set_option maxHeartbeats 4000000 in
theorem rbef_any (l : List Ev) (la : Option Addr) (lc : Nat) (w : World) (hl : Rows w 26 la lc (l.map Ev.cells)) (hlen : l.length ≤ 256) (B : Nat → Nat → Bool) (hB : Tells (dpf l) B) :
    Calls Try.prog 50 #[.slice la l.length lc] w fun e w' => ∃ A rb, e = .returned (.slice (some ⟨A, 0, none⟩) l.length l.length) ∧ RbS w w' A l.length l.length rb B := by
  have hlI : (l.length : Int) ≤ 256 := by omega
  have hlH : Hid (Rows w 26 la lc (l.map Ev.cells)) := hl
  have hBH : Hid (Tells (dpf l) B) := hB
  obtain ⟨iB, hiB, hzB, hsB, hbB⟩ := info_q infoBl
  obtain ⟨iS, hiS, hzS, hsS, hbS⟩ := info_q infoSb
  have iBH : Hid (Try.prog.info? 4 = some iB ∧ iB.zero = some (.bool false) ∧ iB.size = 1 ∧ iB.bytes * l.length ≤ 281474976710656) := ⟨hiB, hzB, hsB, by rw [hbB]; omega⟩
  have iSH : Hid (Try.prog.info? 36 = some iS ∧ iS.zero = some (.slice none 0 0) ∧ iS.size = 1 ∧ iS.bytes * l.length ≤ 281474976710656) := ⟨hiS, hzS, hsS, by rw [hbS]; omega⟩
  have huE : Hid (Try.prog.underlying 70 = _) := Try.underlying70
  have hiE : Hid ((Try.prog.info? 70).map (·.size) = some 26) := infoE26
  clear hl hB hiB hzB hsB hbB hiS hzS hsS hbS
  go_enter Try.func50, Try.ntmps50
  go_wp2_with (first
    | (refine wpList_mk _ rfl _ _ 25 rfl 36 iS (.slice none 0 0) Try.underlying25 iSH.out.1 iSH.out.2.1 rfl iSH.out.2.2.1 l.length rfl rfl iSH.out.2.2.2 (by omega) ?_; intro W hwh hbW hsW))
  have s0 : Hid (RbS w W w.heap.size l.length 0 (fun _ => 0) fun _ _ => false) := ⟨mat_new hwh (Nat.le_refl _), hbW⟩
  clear hwh hbW hsW
  obtain ⟨A, hA⟩ : ∃ A, w.heap.size = A := ⟨_, rfl⟩
  rw [hA] at s0 ⊢
  clear hA
  go_loopw [5] (fun u wr => ∃ (k : Nat) (rb : Nat → Nat), k ≤ l.length ∧ u = .int .i64 k ∧ Hid (RbS w wr A l.length k rb fun _ _ => false)) (fun u _ => l.length - (intOf u).toNat)
  case atStart => exact ⟨0, _, Nat.zero_le _, rfl, s0⟩
  case round =>
    obtain ⟨k, rb, hk, rfl, hs⟩ := hrel
    clear s0
    by_cases hlt : k < l.length
    · have hkI : (k : Int) < l.length := by omega
      have xA := ix_row A l.length k hlt
      have nx : Hid (∀ W', W'.heap[wr.heap.size]? = some (.cells (List.replicate l.length (Value.bool false)).toArray 4 (0, 0)) → Below wr.heap.size wr W' → RbS w (W'.setCell ⟨A, k, none⟩ (.slice (some ⟨wr.heap.size, 0, none⟩) l.length l.length)) A l.length (k + 1) (fun i => if i = k then wr.heap.size else rb i) (fun _ _ => false)) := fun W' h1 h2 => by
        have hm := hs.out.m.more hlt (by have := hs.out.b.size; omega) (Nat.le_refl _) h2 (by rw [h1, boolRow_new])
        exact ⟨hm.congr fun i j _ _ => by split <;> rfl, by
          rw [setCell_eq_setRow W' A k _ _ _ _ (hs.out.m.later h2).a]
          exact below_setRow (bthen hs.out.b h2) hs.out.m.lo.1 _⟩
      have cl : Hid (∀ W', Below wr.heap.size wr W' → W'.cell? ⟨A, k, none⟩ = some (.slice none 0 0) ∧ W'.frozen? ⟨A, k, none⟩ = false) := fun W' h2 => by
        have h3 := (hs.out.m.later h2).a
        exact ⟨cell_of h3 (by rw [sliceRow_at hlt, if_neg (by omega)]), frozen_of_row _ _ _ _ _ h3⟩
      go_wp2_with (first
        | (refine wpList_mk _ rfl _ _ 36 rfl 4 iB (.bool false) Try.underlying36 iBH.out.1 iBH.out.2.1 rfl iBH.out.2.2.1 l.length rfl rfl iBH.out.2.2.2 (by omega) ?_; intro W1 hwh hbW hsW; (have hnew : Hid (RbS w (W1.setCell ⟨A, k, none⟩ (.slice (some ⟨wr.heap.size, 0, none⟩) l.length l.length)) A l.length (k + 1) (fun i => if i = k then wr.heap.size else rb i) (fun _ _ => false)) := nx.out W1 hwh hbW); (have hcl : Hid (W1.cell? ⟨A, k, none⟩ = some (.slice none 0 0) ∧ W1.frozen? ⟨A, k, none⟩ = false) := cl.out W1 hbW); clear hwh hbW hsW nx cl)
        | (refine wpList_puts rfl 36 _ _ rfl ⟨A, k, none⟩ rfl (some ⟨wr.heap.size, 0, none⟩) l.length l.length rfl (by kernel_rfl) _ hcl.out.1 hcl.out.2 ?_; intro W2 hW2; (have s2 : Hid (RbS w W2 A l.length (k + 1) (fun i => if i = k then wr.heap.size else rb i) (fun _ _ => false)) := by rw [hW2]; exact hnew.out); clear hW2 hnew hcl))
      go_roundw
      case rel => exact ⟨k + 1, _, by omega, by go_num, s2⟩
      case measure => simp [intOf]; omega
    · have hk2 : k = l.length := by omega
      subst hk2
      clear hlt hk
      have t0 : Hid (RbS w wr A l.length l.length rb (mj B 0 fun _ => false)) := hs.out.cong fun a b => by unfold mj; rw [if_neg (by omega)]; split <;> rfl
      clear hs
      go_wp2_with fail
      go_loopw [6] (fun u wq => ∃ j : Nat, j ≤ l.length ∧ u = .int .i64 j ∧ Hid (RbS w wq A l.length l.length rb (mj B j fun _ => false))) (fun u _ => l.length - (intOf u).toNat)
      case atStart => exact ⟨0, Nat.zero_le _, rfl, t0⟩
      case round =>
        rename World => wq
        obtain ⟨j, hj, rfl, hs⟩ := hrel
        clear t0
        by_cases hlt : j < l.length
        · have hjI : (j : Int) < l.length := by omega
          have hwj : wrap64 ((j : Int) - 1) = (j : Int) - 1 := by simp only [wrap64]; omega
          have t1 : Hid (RbS w wq A l.length l.length rb (mj B j (sB (dpf l) B j j))) := hs.out.cong fun a b => by
            unfold mj
            split
            · rfl
            · split
              · rw [sB_top hBH.out]
              · rfl
          clear hs
          go_wp2_with fail
          go_loopw [7] (fun u wv => ∃ m : Nat, m ≤ j ∧ u = .int .i64 ((m : Int) - 1) ∧ Hid (RbS w wv A l.length l.length rb (mj B j (sB (dpf l) B j m)))) (fun u _ => (intOf u + 1).toNat)
          case atStart => exact ⟨j, Nat.le_refl _, by first | rfl | rw [hwj], t1⟩
          case round =>
            rename World => wv
            obtain ⟨m, hm, rfl, hs⟩ := hrel
            clear t1
            cases m with
            | zero =>
              have t2 : Hid (RbS w wv A l.length l.length rb (mj B (j + 1) fun _ => false)) := hs.out.cong fun a b => mj_next B j _ (fun a => sB_zero hBH.out j a) a b
              clear hs
              go_wp2
              go_roundw
              case rel => exact ⟨j + 1, by omega, by go_num, t2⟩
              case measure => simp [intOf]; omega
            | succ i =>
              have hiI : ((i + 1 : Nat) : Int) - 1 = (i : Int) := by omega
              rw [hiI]
              have hi0 : (0 : Int) ≤ (i : Int) := by omega
              have hij : i < j := hm
              have hwi : wrap64 ((i : Int) - 1) = (i : Int) - 1 := by simp only [wrap64]; omega
              have xA := ix_row A l.length i (by omega)
              have xR := ix_bool (rb i) l.length j hlt
              obtain ⟨eb, eo, e1, e2, e3⟩ := ev_row (hlH.out.later hs.out.b) i _ (evf_at (l := l) (i := i) (by omega))
              obtain ⟨fb, fo, f1, f2, f3⟩ := ev_row (hlH.out.later hs.out.b) j _ (evf_at hlt)
              have z1 : ∀ q : Cls (Bey wv), q.w.cell? ⟨A, i, none⟩ = some (.slice (some ⟨rb i, 0, none⟩) l.length l.length) := fun q => (hs.out.m.later q.h).row (by omega) (by omega)
              have z2 : ∀ q : Cls (Bey wv), q.w.cell? ⟨rb i, j, none⟩ = some (.bool (sB (dpf l) B j (i + 1) i)) := fun q => by
                have := ((hs.out.m.later q.h).cell (i := i) (j := j) (by omega) hlt).1
                rwa [mj_at] at this
              have r1 : ∀ q : Cls (Bey wv), q.w.rangeAt eb eo (evf l i).cells := fun q => range_block e3 (q.h.block eb e2)
              have r2 : ∀ q : Cls (Bey wv), q.w.rangeAt fb fo (evf l j).cells := fun q => range_block f3 (q.h.block fb f2)
              have cD : ∀ q : Cls (Bey wv), Calls Try.prog 40 #[.agg (evf l i).cells.toArray, .agg (evf l j).cells.toArray] q.w fun e w' => e = .returned (.bool (dpf l i j)) ∧ Below q.w.heap.size q.w w' := fun q => rdependent_any _ _ q.w _ rfl
              have hne := bey_some wv
              clear e2 e3 f2 f3 hwj
              obtain ⟨P, hP⟩ : ∃ P, sB (dpf l) B j (i + 1) i = P := ⟨_, rfl⟩
              obtain ⟨D, hD⟩ : ∃ D, dpf l i j = D := ⟨_, rfl⟩
              rw [hP] at z2
              rw [hD] at cD
              have hPH : Hid (sB (dpf l) B j (i + 1) i = P ∧ dpf l i j = D) := ⟨hP, hD⟩
              clear hP hD
              cases P with
              | true =>
                have t2 : Hid (∀ W', Below wv.heap.size wv W' → RbS w W' A l.length l.length rb (mj B j (sB (dpf l) B j i))) := fun W' hb => (hs.out.later hb).cong fun a b => by
                  have e : sB (dpf l) B j i = sB (dpf l) B j (i + 1) := funext fun q => sB_keep hBH.out (.inl hPH.out.1) q
                  rw [e]
                go_wp2_with fail
                refine wp_region_cls (Bey wv) (by kernel_rfl) (by kernel_rfl) (bey_drew wv) ?_
                repeat (go_big_quiet_step (fail))
                refine wpQuiet_nil ?_
                intro _ hw'
                obtain ⟨sq, hw''⟩ := hw'
                subst hw''
                clear xA xR e1 f1 z1 z2 r1 r2 cD hne
                go_wp2
                go_roundw
                case rel => exact ⟨i, by omega, by first | rfl | go_num | rw [hwi], t2.out _ sq.h⟩
                case measure => simp [intOf]; try omega
              | false =>
                cases D with
                | false =>
                  have t2 : Hid (∀ W', Below wv.heap.size wv W' → RbS w W' A l.length l.length rb (mj B j (sB (dpf l) B j i))) := fun W' hb => (hs.out.later hb).cong fun a b => by
                    have e : sB (dpf l) B j i = sB (dpf l) B j (i + 1) := funext fun q => sB_keep hBH.out (.inr hPH.out.2) q
                    rw [e]
                  go_wp2_with fail
                  refine wp_region_cls (Bey wv) (by kernel_rfl) (by kernel_rfl) (bey_drew wv) ?_
                  repeat (first
                    | (go_big_quiet_want; (first | refine quiet_load_mid 70 _ rfl eb eo rfl _ _ r1 huE.out rfl hiE.out ?_ | refine quiet_load_mid 70 _ rfl fb fo rfl _ _ r2 huE.out rfl hiE.out ?_); (simp only [Act.put, List.setIfInBounds_toArray, List.set_cons_zero, List.set_cons_succ]); go_big_quiet_on)
                    | go_big_quiet_step ((go_at_call 40; exact calls_bey (cD _))))
                  refine wpQuiet_nil ?_
                  intro _ hw'
                  obtain ⟨sq, hw''⟩ := hw'
                  subst hw''
                  clear xA xR e1 f1 z1 z2 r1 r2 cD hne
                  go_wp2
                  go_roundw
                  case rel => exact ⟨i, by omega, by first | rfl | go_num | rw [hwi], t2.out _ sq.h⟩
                  case measure => simp [intOf]; try omega
                | true =>
                  go_wp2_with fail
                  refine wp_region_cls (Bey wv) (by kernel_rfl) (by kernel_rfl) (bey_drew wv) ?_
                  repeat (first
                    | (go_big_quiet_want; (first | refine quiet_load_mid 70 _ rfl eb eo rfl _ _ r1 huE.out rfl hiE.out ?_ | refine quiet_load_mid 70 _ rfl fb fo rfl _ _ r2 huE.out rfl hiE.out ?_); (simp only [Act.put, List.setIfInBounds_toArray, List.set_cons_zero, List.set_cons_succ]); go_big_quiet_on)
                    | go_big_quiet_step ((go_at_call 40; exact calls_bey (cD _))))
                  refine wpQuiet_nil ?_
                  intro _ hw'
                  obtain ⟨sq, hw''⟩ := hw'
                  subst hw''
                  clear e1 f1 z1 z2 r1 r2 cD hne
                  obtain ⟨W1, hW1⟩ : ∃ W1, W1 = sq.w := ⟨_, rfl⟩
                  have hs1 : Hid (RbS w W1 A l.length l.length rb (mj B j (sB (dpf l) B j (i + 1)))) := by show RbS _ _ _ _ _ _ _; rw [hW1]; exact hs.out.later sq.h
                  rw [← hW1]
                  clear hW1 hs
                  have z3 := hs1.out.m.row (i := i) (by omega) (by omega)
                  have z4 : Hid (W1.cell? ⟨rb i, j, none⟩ = some (.bool false) ∧ W1.frozen? ⟨rb i, j, none⟩ = false) := by
                    have := hs1.out.m.cell (i := i) (j := j) (by omega) hlt
                    rw [mj_at, hPH.out.1] at this
                    exact this
                  go_wp2_with (first
                    | (refine wpList_putb rfl 4 _ _ rfl ⟨rb i, j, none⟩ rfl true rfl (by kernel_rfl) _ z4.out.1 z4.out.2 ?_; intro W2 hW2; (have hs2 : Hid (RbS w W2 A l.length l.length rb (mj B j (c4 (dpf l) B j i 0))) := by (rw [hW2]; exact (hs1.out.col (by omega) true).cong fun a b => by (unfold mj; simp only [c4_start]))); clear hW2 hs1 z3 z4))
                  clear xA xR
                  go_loopw [8] (fun u wy => ∃ k : Nat, k ≤ i ∧ u = .int .i64 k ∧ Hid (RbS w wy A l.length l.length rb (mj B j (c4 (dpf l) B j i k)))) (fun u _ => i - (intOf u).toNat)
                  case atStart => exact ⟨0, Nat.zero_le _, rfl, hs2⟩
                  case round =>
                    rename World => wy
                    obtain ⟨k, hk, rfl, hs⟩ := hrel
                    clear hs2
                    by_cases hki : k < i
                    · have hkI : (k : Int) < i := by omega
                      have yA := ix_row A l.length k (by omega)
                      have yJ := ix_bool (rb k) l.length j hlt
                      have yI := ix_bool (rb k) l.length i (by omega)
                      have u1 := hs.out.m.row (i := k) (by omega) (by omega)
                      have u2 := hs.out.m.cell (i := k) (j := j) (by omega) hlt
                      have u3 := (hs.out.m.cell (i := k) (j := i) (by omega) (by omega)).1
                      rw [mj_at, c4_at _ _ _ _ _ hki] at u2
                      rw [mj_lt B _ _ hij] at u3
                      obtain ⟨u2a, u2b⟩ := u2
                      have nx : Hid (∀ W' v, Below wy.heap.size wy W' → v = (sB (dpf l) B j (i + 1) k || B k i) → RbS w (W'.setCell ⟨rb k, j, none⟩ (.bool v)) A l.length l.length rb (mj B j (c4 (dpf l) B j i (k + 1)))) := fun W' v hb hv => ((hs.out.later hb).col (by omega) v).cong fun a b => by
                        subst hv
                        unfold mj
                        simp only [c4_step (dpf l) B j i k _ hki]
                      clear hs
                      generalize sB (dpf l) B j (i + 1) k = P at *
                      generalize B k i = Q at *
                      generalize rb k = R at *
                      cases P with
                      | true =>
                        go_wp2_with fail
                        go_region
                        go_wp2
                        go_roundw
                        case rel => exact ⟨k + 1, by omega, by go_num, (nx.out wy true (Below.refl _ _) rfl).later (Below.refl _ _).drew⟩
                        case measure => simp [intOf]; omega
                      | false =>
                        go_wp2_with fail
                        go_region
                        go_wp2
                        go_roundw
                        case rel => exact ⟨k + 1, by omega, by go_num, (nx.out wy Q (Below.refl _ _) (Bool.false_or _).symm).later (Below.refl _ _).drew⟩
                        case measure => simp [intOf]; omega
                    · have hk2 : k = i := by omega
                      subst hk2
                      have t3 : Hid (RbS w wy A l.length l.length rb (mj B j (sB (dpf l) B j k))) := hs.out.cong fun a b => by
                        have e : c4 (dpf l) B j k k = sB (dpf l) B j k := funext fun q => c4_end hBH.out hij hPH.out.2 q
                        rw [e]
                      clear hs
                      go_wp2
                      go_roundw
                      case rel => exact ⟨k, by omega, by first | rfl | go_num | rw [hwi], t3⟩
                      case measure => simp [intOf]; try omega
        · have hj2 : j = l.length := by omega
          subst hj2
          go_wp2
          go_ret
          exact ⟨A, rb, rfl, hs.out.m.congr fun a b _ hb => mj_lt B _ a hb, hs.out.b⟩
end Go.Proofs.Ytkadlopcomjonaa.pg
/- How many orders there are: the document's own count. -/
namespace Go.Proofs.Ytkadlopcomjonaa.pg
open Go.ChangeShapes Go.WideShapes Go.ChangeAt Go.RowKit Go.Shelf
set_option linter.unusedVariables false
set_option linter.unusedSimpArgs false
set_option maxRecDepth 100000
/-- What the first of the events that may come next add. -/
def sumT (B : Nat → Nat → Bool) (n m : Nat) (S : Nat → Bool) (k : Nat) : Nat := (((List.range k).filter (freeB B S)).map fun x => preS B n m (insS S x)).sum
theorem sumT_more (B : Nat → Nat → Bool) (n m : Nat) (S : Nat → Bool) (k : Nat) : sumT B n m S (k + 1) = sumT B n m S k + (if freeB B S k = true then preS B n m (insS S k) else 0) := by
  unfold sumT
  rw [List.range_succ, List.filter_append, List.map_append, List.sum_append_nat]
  congr 1
  by_cases h : freeB B S k = true
  · rw [if_pos h, List.filter_cons, if_pos h]; simp
  · rw [if_neg h, List.filter_cons, if_neg h]; simp
theorem sumT_up (B : Nat → Nat → Bool) (n m : Nat) (S : Nat → Bool) {k : Nat} : ∀ {j : Nat}, k ≤ j → sumT B n m S k ≤ sumT B n m S j
  | 0, h => by have : k = 0 := by omega
               subst this; exact Nat.le_refl _
  | j + 1, h => by
    by_cases e : k = j + 1
    · subst e; exact Nat.le_refl _
    · have := sumT_up B n m S (k := k) (j := j) (by omega)
      rw [sumT_more]; omega
theorem sumT_all (B : Nat → Nat → Bool) (n m : Nat) (S : Nat → Bool) : preS B n (m + 1) S = sumT B n m S n := rfl
/-- May it come next, as far as the first tell? -/
def frT (B : Nat → Nat → Bool) (S : Nat → Bool) (i j : Nat) : Bool := !S i && (List.range j).all fun k => S k || !B k i
theorem frT_more (B : Nat → Nat → Bool) (S : Nat → Bool) (i j : Nat) : frT B S i (j + 1) = (frT B S i j && (S j || !B j i)) := by
  unfold frT
  rw [List.range_succ, List.all_append, Bool.and_assoc]
  simp
theorem frT_no {B : Nat → Nat → Bool} {S : Nat → Bool} {i j : Nat} (h : frT B S i j = false) : ∀ {k : Nat}, j ≤ k → frT B S i k = false
  | 0, q => by have : j = 0 := by omega
               subst this; exact h
  | k + 1, q => by
    by_cases e : j = k + 1
    · subst e; exact h
    · rw [frT_more, frT_no h (k := k) (by omega)]; rfl
theorem frT_all (B : Nat → Nat → Bool) (S : Nat → Bool) (i : Nat) : freeB B S i = frT B S i i := rfl
abbrev objBl (n : Nat) (S : Nat → Bool) : Obj := .cells (boolRow n S) 4
theorem bl_ins {W : World} {Pb n i : Nat} {S : Nat → Bool} (h : W.heap[Pb]? = some (objBl n S)) : (W.setCell ⟨Pb, i, none⟩ (.bool true)).heap[Pb]? = some (objBl n (insS S i)) := by
  rw [setCell_eq_setRow W Pb i _ _ _ _ h, boolRow_set, setRow_heap W Pb _ _ _ _ h]
  have : (fun b => if b = i then true else S b) = insS S i := by
    funext b
    unfold insS
    by_cases e : b = i
    · rw [if_pos e, e]; simp
    · rw [if_neg e]
      have : (b == i) = false := by simpa using e
      rw [this, Bool.or_false]
  rw [this]
theorem bl_del {W : World} {Pb n i : Nat} {S : Nat → Bool} (hi : S i = false) (h : W.heap[Pb]? = some (objBl n (insS S i))) : (W.setCell ⟨Pb, i, none⟩ (.bool false)).heap[Pb]? = some (objBl n S) := by
  rw [setCell_eq_setRow W Pb i _ _ _ _ h, boolRow_set, setRow_heap W Pb _ _ _ _ h]
  have : (fun b => if b = i then false else insS S i b) = S := by
    funext b
    unfold insS
    by_cases e : b = i
    · rw [if_pos e, e, hi]
    · rw [if_neg e]
      have : (b == i) = false := by simpa using e
      rw [this, Bool.or_false]
  rw [this]
/-- Marked, called, and unmarked: nothing has changed. -/
theorem back_below {W w2 : World} {Pb n i : Nat} {S : Nat → Bool} (hi : S i = false) (h : W.heap[Pb]? = some (objBl n S)) (hb : Below (W.setCell ⟨Pb, i, none⟩ (.bool true)).heap.size (W.setCell ⟨Pb, i, none⟩ (.bool true)) w2) : Below W.heap.size W (w2.setCell ⟨Pb, i, none⟩ (.bool false)) := by
  have hl := (Array.getElem?_eq_some_iff.mp h).1
  have hs1 : (W.setCell ⟨Pb, i, none⟩ (.bool true)).heap.size = W.heap.size := World.size_setCell _ _ _
  have h1 : w2.heap[Pb]? = some (objBl n (insS S i)) := (hb.block Pb (by rw [hs1]; exact hl)).trans (bl_ins h)
  have hB1 : Below 0 W (W.setCell ⟨Pb, i, none⟩ (.bool true)) := (Below.refl 0 W).setCell (p := ⟨Pb, i, none⟩) (Nat.zero_le _) _
  have hB2 : Below 0 w2 (w2.setCell ⟨Pb, i, none⟩ (.bool false)) := (Below.refl 0 w2).setCell (p := ⟨Pb, i, none⟩) (Nat.zero_le _) _
  have hB := (hB1.trans (hb.mono (Nat.zero_le _))).trans hB2
  refine ⟨hB.os, hB.tape, hB.output, hB.size, fun b hbl => ?_⟩
  by_cases e : b = Pb
  · subst e
    rw [bl_del hi h1, h]
  · rw [Below.heap_setCell _ _ _ _ e, hb.block b (by rw [hs1]; exact hbl), Below.heap_setCell _ _ _ _ e]
set_option maxHeartbeats 8000000 in
theorem ways_any (l : List Ev) (la : Option Addr) (lc A lo : Nat) (rb : Nat → Nat) (B : Nat → Nat → Bool) (hlen : l.length ≤ 256) (Pb : Nat) : ∀ (m : Nat) (S : Nat → Bool) (most : Int) (c : Nat) (w : World), c + m = l.length → 1 ≤ most → most ≤ 10000 → Mat w lo A l.length l.length rb B → w.heap[Pb]? = some (objBl l.length S) → Pb ≠ A → (∀ i, i < l.length → Pb ≠ rb i) →
    Calls Try.prog 57 #[.slice la l.length lc, .slice (some ⟨A, 0, none⟩) l.length l.length, .slice (some ⟨Pb, 0, none⟩) l.length l.length, .int .i64 (c : Int), .int .i64 most] w fun e w' => (∃ r, e = .returned (.int .i64 r) ∧ r = min (preS B l.length m S : Int) most) ∧ Below w.heap.size w w'
  | 0, S, most, c, w, hcm, hm1, hm2, hA, hP, hPA, hPr => by
    have hcI : (c : Int) = l.length := by omega
    have hfin : Hid (1 = min (preS B l.length 0 S : Int) most) := by
      show 1 = min (1 : Int) most
      omega
    clear hA hP
    rw [hcI]
    clear hcI
    go_enter Try.func57, Try.ntmps57
    go_wp2
    go_ret
    exact ⟨⟨1, rfl, hfin.out⟩, Below.refl _ _⟩
  | m + 1, S, most, c, w, hcm, hm1, hm2, hA, hP, hPA, hPr => by
    have ih : Hid (∀ (S : Nat → Bool) (most : Int) (c : Nat) (w : World), c + m = l.length → 1 ≤ most → most ≤ 10000 → Mat w lo A l.length l.length rb B → w.heap[Pb]? = some (objBl l.length S) → Calls Try.prog 57 #[.slice la l.length lc, .slice (some ⟨A, 0, none⟩) l.length l.length, .slice (some ⟨Pb, 0, none⟩) l.length l.length, .int .i64 (c : Int), .int .i64 most] w fun e w' => (∃ r, e = .returned (.int .i64 r) ∧ r = min (preS B l.length m S : Int) most) ∧ Below w.heap.size w w') := fun S most c w h1 h2 h3 h4 h5 => ways_any l la lc A lo rb B hlen Pb m S most c w h1 h2 h3 h4 h5 hPA hPr
    have d0 : ((c : Int) == (l.length : Int)) = false := by
      have : ¬ (c : Int) = l.length := by omega
      simpa using this
    have hlenI : (l.length : Int) ≤ 256 := by omega
    have hcl : (c : Int) < l.length := by omega
    have s0 : Hid (Below w.heap.size w w ∧ sumT B l.length m S 0 = 0) := ⟨Below.refl _ _, rfl⟩
    have hAH : Hid (Mat w lo A l.length l.length rb B) := hA
    have hPH : Hid (w.heap[Pb]? = some (objBl l.length S)) := hP
    have hPrH : Hid (∀ i, i < l.length → Pb ≠ rb i) := hPr
    have hcmH : Hid (c + (m + 1) = l.length) := hcm
    clear hA hP hPr hcm
    go_enter Try.func57, Try.ntmps57
    go_wp2_with fail
    go_loopw [11, 21] (fun u kk wr => ∃ (k s : Nat), k ≤ l.length ∧ u = .int .i64 (s : Int) ∧ kk = .int .i64 (k : Int) ∧ (s : Int) < most ∧ Hid (Below w.heap.size w wr ∧ sumT B l.length m S k = s)) (fun _ kk _ => l.length - (intOf kk).toNat)
    case atStart => exact ⟨0, 0, Nat.zero_le _, rfl, rfl, by show (0 : Int) < most; omega, s0⟩
    case round =>
      clear s0
      obtain ⟨k, s, hk, rfl, rfl, hsm, hs⟩ := hrel
      by_cases hlt : k < l.length
      · have hkI : (k : Int) < l.length := by omega
        have xP := ix_bool Pb l.length k hlt
        have hPk : wr.heap[Pb]? = some (objBl l.length S) := (hs.out.1.block _ (Array.getElem?_eq_some_iff.mp hPH.out).1).trans hPH.out
        have cP := cell_ofK (k := k) hPk (boolRow_at hlt)
        have hPkH : Hid (wr.heap[Pb]? = some (objBl l.length S)) := hPk
        have hMk : Hid (Mat wr lo A l.length l.length rb B) := hAH.out.later hs.out.1
        have hmo : Hid (sumT B l.length m S (k + 1) = s + (if freeB B S k = true then preS B l.length m (insS S k) else 0)) := by show _ = _; rw [sumT_more, hs.out.2]
        have hbk : Hid (Below w.heap.size w wr) := hs.out.1
        clear hs hPk
        have hf0 : Hid (frT B S k 0 = !S k) := by show (!S k && true) = !S k; rw [Bool.and_true]
        generalize hSk : S k = sk at *
        have hSkH : Hid (S k = sk) := hSk
        clear hSk
        go_wp2_with fail
        go_loopw [13, 14] (fun f jj wq => ∃ (j : Nat) (fr : Bool), j ≤ k ∧ f = .bool fr ∧ jj = .int .i64 (j : Int) ∧ wq = wr ∧ Hid (frT B S k j = fr)) (fun _ jj _ => k - (intOf jj).toNat)
        case atStart => exact ⟨0, !sk, Nat.zero_le _, rfl, rfl, rfl, hf0⟩
        case round =>
          clear hf0
          obtain ⟨j, fr, hj, rfl, rfl, hwq, hfr⟩ := hrel
          subst hwq
          by_cases hjk : j < k
          · have hjI : (j : Int) < k := by omega
            cases fr with
            | true =>
              have xJ := ix_bool Pb l.length j (by omega)
              have cJ := cell_ofK (k := j) hPkH.out (boolRow_at (show j < l.length by omega))
              have xA := ix_row A l.length j (by omega)
              have cA := hMk.out.row (show j < l.length by omega) (by omega)
              have xB := ix_bool (rb j) l.length k hlt
              have cB := (hMk.out.cell (show j < l.length by omega) hlt).1
              have hnx : Hid (frT B S k (j + 1) = (S j || !B j k)) := by show _ = _; rw [frT_more, hfr.out, Bool.true_and]
              clear hfr
              generalize S j = sj at *
              generalize B j k = bj at *
              cases sj <;> cases bj <;>
              · go_wp2_with fail
                go_roundw
                case rel => exact ⟨j + 1, _, by omega, rfl, by go_num, trivial, hnx⟩
                case measure => simp [intOf]; omega
            | false =>
              have hno : freeB B S k = false := by rw [frT_all]; exact frT_no hfr.out (by omega)
              have hs2 : Hid (Below w.heap.size w wr ∧ sumT B l.length m S (k + 1) = s) := ⟨hbk.out, by rw [hmo.out, if_neg (by rw [hno]; simp)]; rfl⟩
              clear hfr hno hmo xP cP
              go_wp2_with fail
              go_roundw
              case rel => exact ⟨k + 1, s, by omega, rfl, by go_num, hsm, hs2⟩
              case measure => simp [intOf]; omega
          · have hke : j = k := by omega
            subst hke
            have hjI : ¬ ((j : Int) < j) := by omega
            cases fr with
            | false =>
              have hno : freeB B S j = false := by rw [frT_all]; exact frT_no hfr.out (by omega)
              have hs2 : Hid (Below w.heap.size w wr ∧ sumT B l.length m S (j + 1) = s) := ⟨hbk.out, by rw [hmo.out, if_neg (by rw [hno]; simp)]; rfl⟩
              clear hfr hno hmo xP cP
              go_wp2_with fail
              go_roundw
              case rel => exact ⟨j + 1, s, by omega, rfl, by go_num, hsm, hs2⟩
              case measure => simp [intOf]; omega
            | true =>
              have hyes : freeB B S j = true := hfr.out
              have hsf : S j = false := (freeB_iff.mp hyes).1
              have hskf : sk = false := by rw [← hSkH.out]; exact hsf
              subst hskf
              have fP : wr.frozen? ⟨Pb, j, none⟩ = false := frozen_of_row _ _ _ _ _ hPkH.out
              have hmo2 : Hid (sumT B l.length m S (j + 1) = s + preS B l.length m (insS S j)) := by show _ = _; rw [hmo.out, if_pos hyes]
              have hI1 : Hid ((wr.setCell ⟨Pb, j, none⟩ (.bool true)).heap[Pb]? = some (objBl l.length (insS S j))) := bl_ins hPkH.out
              have hM1 : Hid (Mat (wr.setCell ⟨Pb, j, none⟩ (.bool true)) lo A l.length l.length rb B) := hMk.out.keep fun b hb => Below.heap_setCell _ _ _ _ fun e => by
                rcases hb with rfl | ⟨i, hi, rfl⟩
                · exact hPA e.symm
                · exact hPrH.out i hi e.symm
              have cW : Calls Try.prog 57 #[.slice la l.length lc, .slice (some ⟨A, 0, none⟩) l.length l.length, .slice (some ⟨Pb, 0, none⟩) l.length l.length, .int .i64 ((c : Int) + 1), .int .i64 (most - (s : Int))] (wr.setCell ⟨Pb, j, none⟩ (.bool true)) fun e w' => ∃ rn : Nat, e = .returned (.int .i64 (rn : Int)) ∧ Hid ((rn : Int) = min (preS B l.length m (insS S j) : Int) (most - s) ∧ Below (wr.setCell ⟨Pb, j, none⟩ (.bool true)).heap.size (wr.setCell ⟨Pb, j, none⟩ (.bool true)) w') := by
                have h1 := ih.out (insS S j) (most - s) (c + 1) (wr.setCell ⟨Pb, j, none⟩ (.bool true)) (by have := hcmH.out; omega) (by omega) (by omega) hM1.out hI1.out
                rw [Int.natCast_add] at h1
                refine h1.mono ?_
                rintro e w' ⟨⟨r, rfl, hr⟩, hb⟩
                exact ⟨r.toNat, by rw [Int.toNat_of_nonneg (by omega)], by rw [Int.toNat_of_nonneg (by omega)]; exact hr, hb⟩
              have hsI : 0 ≤ (s : Int) := by omega
              have hw1 : wrap64 ((c : Int) + 1) = (c : Int) + 1 := by unfold wrap64; omega
              have hw2 : wrap64 (most - (s : Int)) = most - (s : Int) := by unfold wrap64; omega
              have hback : Hid (∀ w2, Below (wr.setCell ⟨Pb, j, none⟩ (.bool true)).heap.size (wr.setCell ⟨Pb, j, none⟩ (.bool true)) w2 → w2.cell? ⟨Pb, j, none⟩ = some (.bool true) ∧ w2.frozen? ⟨Pb, j, none⟩ = false ∧ Below wr.heap.size wr (w2.setCell ⟨Pb, j, none⟩ (.bool false))) := fun w2 hb2 => by
                have h1 := (hb2.block Pb (by rw [World.size_setCell]; exact (Array.getElem?_eq_some_iff.mp hPkH.out).1)).trans hI1.out
                refine ⟨?_, frozen_of_row _ _ _ _ _ h1, back_below hsf hPkH.out hb2⟩
                have h2 := cell_ofK (k := j) h1 (boolRow_at hlt)
                rw [h2]
                unfold insS
                simp
              clear hfr hyes hmo hI1 hM1 hsf
              go_upto_region 16 with (go_at_call 57; (refine cW.mono ?_); rintro e w2 ⟨rn, rfl, hrn⟩; (obtain ⟨c2, f2, hbb⟩ := hback.out w2 hrn.out.2); (have hbbH : Hid (Below wr.heap.size wr (w2.setCell ⟨Pb, j, none⟩ (.bool false))) := hbb); clear hbb; (have hrI : (rn : Int) ≤ 10000 := (by have := hrn.out.1; omega)); (have hw3 : wrap64 ((s : Int) + (rn : Int)) = (s : Int) + (rn : Int) := (by unfold wrap64; omega)))
              by_cases hge : most ≤ (s : Int) + (rn : Int)
              · have hfin : Hid (most = min (preS B l.length (m + 1) S : Int) most) := by
                  have h1 := hmo2.out
                  have h2 := sumT_up B l.length m S (show j + 1 ≤ l.length by omega)
                  rw [← sumT_all] at h2
                  have h3 := hrn.out.1
                  show _ = _
                  omega
                have hbe : Hid (Below w.heap.size w (w2.setCell ⟨Pb, j, none⟩ (.bool false))) := bthen hbk.out hbbH.out
                clear hrn hmo2
                go_wp2_with fail
                go_ret
                refine ⟨?_, hbe.out⟩
                first
                  | exact ⟨_, rfl, hfin.out⟩
                  | exact congrArg (fun z => Ending.returned (Value.int .i64 z)) hfin.out
              · have hs2 : Hid (Below w.heap.size w (w2.setCell ⟨Pb, j, none⟩ (.bool false)) ∧ sumT B l.length m S (j + 1) = s + rn) := ⟨bthen hbk.out hbbH.out, by have h1 := hmo2.out; have h3 := hrn.out.1; omega⟩
                have hlt2 : (s : Int) + (rn : Int) < most := by omega
                clear hrn hmo2
                go_wp2_with fail
                go_roundw
                case rel => exact ⟨j + 1, s + rn, by omega, by rw [Int.natCast_add], by go_num, by rw [Int.natCast_add]; exact hlt2, hs2⟩
                case measure => simp [intOf]; omega
      · have hkI : ¬ ((k : Int) < l.length) := by omega
        have hke : k = l.length := by omega
        have hfin : Hid ((s : Int) = min (preS B l.length (m + 1) S : Int) most) := by
          have h1 := hs.out.2
          rw [hke, ← sumT_all] at h1
          show _ = _
          rw [h1]
          omega
        have hbe : Hid (Below w.heap.size w wr) := hs.out.1
        clear hs hke
        go_wp2_with fail
        go_ret
        refine ⟨?_, hbe.out⟩
        first
          | exact ⟨_, rfl, hfin.out⟩
          | exact congrArg (fun z => Ending.returned (Value.int .i64 z)) hfin.out
end Go.Proofs.Ytkadlopcomjonaa.pg
