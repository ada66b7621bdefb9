/- OrderHigh: what its loops reckon. -/
import Derived.Test.YtkhhkgfaakgdfaaM26
import Derived.Test.YtkhhkgfaakgdfaaM31
namespace Go.Proofs.Ytkhhkgfaakgdfaa.pg
open Go.ChangeShapes Go.WideShapes Go.ChangeAt Go.RowKit Go.Shelf
set_option linter.unusedVariables false
set_option linter.unusedSimpArgs false
set_option maxRecDepth 100000
attribute [local go_sem ↓] Go.wp_at_zero Go.wp_at_succ
def vst (h : Nat → Int) (j : Nat) (v : Int) (p : Nat × Nat) : Int := if p.2 = j ∧ v < h p.1 + 2 then h p.1 + 2 else v
def vfold (h : Nat → Int) (j : Nat) (D : List (Nat × Nat)) : Int := D.foldl (vst h j) 1
theorem vfold_more (h : Nat → Int) (j : Nat) (D : List (Nat × Nat)) (p : Nat × Nat) : vfold h j (D ++ [p]) = vst h j (vfold h j D) p := by unfold vfold; rw [List.foldl_append]; rfl
theorem vfold_in (h : Nat → Int) (j : Nat) (X : Int) (hX : 1 ≤ X) : ∀ (n : Nat) (D : List (Nat × Nat)), D.length = n → (∀ p ∈ D, p.2 = j → h p.1 + 2 ≤ X) → 1 ≤ vfold h j D ∧ vfold h j D ≤ X ∧ ∀ p ∈ D, p.2 = j → h p.1 + 2 ≤ vfold h j D
  | 0, D, hn, _ => by
    have : D = [] := List.length_eq_zero_iff.mp hn
    subst this
    exact ⟨Int.le_refl _, hX, fun p hp => by simp at hp⟩
  | n + 1, D, hn, hD => by
    rcases List.eq_nil_or_concat D with rfl | ⟨q, x, rfl⟩
    · simp at hn
    · rw [List.concat_eq_append] at hn hD ⊢
      rw [List.length_append, List.length_singleton] at hn
      obtain ⟨i1, i2, i3⟩ := vfold_in h j X hX n q (by omega) fun p hp => hD p (List.mem_append_left _ hp)
      have hx := hD x (by simp)
      rw [vfold_more]
      generalize vfold h j q = v at *
      unfold vst
      split
      · rename_i c
        have := hx c.1
        refine ⟨by omega, this, fun p hp hpj => ?_⟩
        rw [List.mem_append, List.mem_singleton] at hp
        rcases hp with hp | rfl
        · have := i3 p hp hpj; omega
        · omega
      · rename_i c
        refine ⟨i1, i2, fun p hp hpj => ?_⟩
        rw [List.mem_append, List.mem_singleton] at hp
        rcases hp with hp | rfl
        · exact i3 p hp hpj
        · have : ¬ v < h p.1 + 2 := fun q => c ⟨hpj, q⟩
          omega
theorem vfold_is {n : Nat} {e : Nat → Nat → Bool} {h : Nat → Int} (hh : High n e h) {D : List (Nat × Nat)} (hD : ∀ p, p ∈ D ↔ p.1 < p.2 ∧ p.2 < n ∧ e p.1 p.2 = true) {j : Nat} (hj : j < n) : vfold h j D = h j + 1 := by
  have hp := hh.pos j hj
  obtain ⟨i1, i2, i3⟩ := vfold_in h j (h j + 1) (by omega) _ D rfl fun p hp hpj => by
    obtain ⟨q1, q2, q3⟩ := (hD p).mp hp
    subst hpj
    have := hh.up p.1 p.2 q1 q2 q3
    omega
  rcases hh.some j hj with q | ⟨i, q1, q2, q3⟩
  · omega
  · have := i3 (i, j) ((hD (i, j)).mpr ⟨q1, hj, q2⟩) rfl
    simp only at this
    omega
def mst (h : Nat → Int) : Nat → Int
  | 0 => 0
  | k + 1 => if mst h k < h k + 1 then h k + 1 else mst h k
theorem mst_in (h : Nat → Int) (n : Nat) (X : Int) (hX : 0 ≤ X) (hh : ∀ j, j < n → h j + 1 ≤ X) : ∀ k, k ≤ n → 0 ≤ mst h k ∧ mst h k ≤ X ∧ ∀ j, j < k → h j + 1 ≤ mst h k
  | 0, _ => ⟨Int.le_refl _, hX, fun j hj => by omega⟩
  | k + 1, hk => by
    obtain ⟨i1, i2, i3⟩ := mst_in h n X hX hh k (by omega)
    have hx := hh k (by omega)
    unfold mst
    split
    · refine ⟨by omega, hx, fun j hj => ?_⟩
      by_cases c : j = k
      · subst c; omega
      · have := i3 j (by omega); omega
    · refine ⟨i1, i2, fun j hj => ?_⟩
      by_cases c : j = k
      · subst c; omega
      · exact i3 j (by omega)
section
variable {l : List Ev} (hrt : ∀ x ∈ l, rightP x)
include hrt
/-- The height, as the law reckons it. -/
theorem mst_is : mst (fun j => (hfold l.length (rel (evf l) l.length).2).1.getD j 0) l.length = (hfold l.length (rel (evf l) l.length).2).2 := by
  obtain ⟨B, hB⟩ := tells_some (dpf l)
  have h := hi_rel hrt hB
  rcases h.hit with ⟨q1, q2⟩ | ⟨j, j1, j2⟩
  · rw [q2, q1]; rfl
  · have hp := h.pos j j1
    obtain ⟨_, i2, i3⟩ := mst_in (fun j => (hfold l.length (rel (evf l) l.length).2).1.getD j 0) l.length (hfold l.length (rel (evf l) l.length).2).2 (by omega) h.top l.length (Nat.le_refl _)
    have := i3 j j1
    omega
theorem hgt_le : 0 ≤ (hfold l.length (rel (evf l) l.length).2).2 ∧ (hfold l.length (rel (evf l) l.length).2).2 ≤ l.length ∧ (0 < l.length → 1 ≤ (hfold l.length (rel (evf l) l.length).2).2) := by
  obtain ⟨B, hB⟩ := tells_some (dpf l)
  have h := hi_rel hrt hB
  have hh := high_rel hrt hB
  have key : ∀ j, j < l.length → (hfold l.length (rel (evf l) l.length).2).1.getD j 0 ≤ (j : Int) := by
    intro j
    induction j using Nat.strongRecOn with
    | ind j ih =>
      intro hj
      rcases hh.some j hj with q | ⟨i, q1, q2, q3⟩
      · omega
      · have := ih i q1 (by omega)
        omega
  rcases h.hit with ⟨q1, q2⟩ | ⟨j, j1, j2⟩
  · rw [q2, q1]; omega
  · have := key j j1
    have hp := h.pos j j1
    omega
theorem own_le (g : Nat) : (cnt (fun k => gof l k == g) l.length : Int) ≤ (hfold l.length (rel (evf l) l.length).2).2 := by
  obtain ⟨B, hB⟩ := tells_some (dpf l)
  have h := hi_rel hrt hB
  exact ((high_rel hrt hB).own hB (ord_ok hrt) g _ (hgt_le hrt).1 h.top l.length (Nat.le_refl _)).1
theorem vfold_rel {D : List (Nat × Nat)} (hD : D.Perm (rel (evf l) l.length).2) {j : Nat} (hj : j < l.length) : vfold (fun j => (hfold l.length (rel (evf l) l.length).2).1.getD j 0) j D = (hfold l.length (rel (evf l) l.length).2).1.getD j 0 + 1 := by
  obtain ⟨B, hB⟩ := tells_some (dpf l)
  exact vfold_is (high_rel hrt hB) (fun p => by rw [hD.mem_iff]; exact edges_mem hrt hB p) hj
end
set_option maxHeartbeats 1000000 in
theorem height_bad (l : List Ev) (la : Option Addr) (lc : Nat) (w : World) (hl : Rows w 26 la lc (l.map Ev.cells)) (c : Int) (hc : checkP l c) (h0 : c = 2 ∨ c = 7) :
    Calls Try.prog 14 #[.slice la l.length lc] w fun e w' => e = .returned (.tuple #[.int .i64 0, .int .i64 c]) ∧ Below w.heap.size w w' := by
  have c1 := look_bad l la lc (.slice none 0 0) w hl c hc h0
  have hlI := rows_len hl
  clear hl hc
  rcases h0 with rfl | rfl
  all_goals
    go_enter Try.func14, Try.ntmps14
    go_wp2_with (first
      | (go_at_call 42; (with_reducible refine c1.mono ?_); rintro e w1 ⟨rfl, hb'⟩; (have hb : Hid (Below w.heap.size w w1) := hb'); clear hb' c1)
      | (refine wpList_store_new rfl 78 _ _ rfl rfl _ _ rfl (by kernel_rfl) rfl (one3 _ _ _ _ _ _ _ _ _) ?_))
    go_ret2
    exact ⟨rfl, bthen hb.out (boxed _ _)⟩
/-- How far the loops have come: what the law's two lists hold. -/
structure OhSt (We W : World) (A O : Nat) (hs os : List Int) : Prop where
  a : W.heap[A]? = some (objInts hs)
  o : W.heap[O]? = some (.cells (os.map fun v => Value.int .i64 v).toArray 39)
  b : Below We.heap.size We W
  ne : A ≠ O
  la : We.heap.size ≤ A
  lo : We.heap.size ≤ O
theorem OhSt.later {We W W' : World} {A O : Nat} {hs os : List Int} (h : OhSt We W A O hs os) (hb : Below W.heap.size W W') : OhSt We W' A O hs os :=
  ⟨(hb.block _ (Array.getElem?_eq_some_iff.mp h.a).1).trans h.a, (hb.block _ (Array.getElem?_eq_some_iff.mp h.o).1).trans h.o, bthen h.b hb, h.ne, h.la, h.lo⟩
theorem OhSt.setA {We W : World} {A O : Nat} {hs os : List Int} (h : OhSt We W A O hs os) (j : Nat) (v : Int) : OhSt We (W.setCell ⟨A, j, none⟩ (.int .i64 v)) A O (hs.set j v) os := by
  rw [setCell_eq_setRow W A j _ _ _ _ h.a]
  refine ⟨?_, (setRow_other _ _ _ _ (Ne.symm h.ne)).trans h.o, below_setRow h.b h.la _, h.ne, h.la, h.lo⟩
  rw [setRow_heap W A _ _ _ _ h.a]
  simp [List.map_set]
theorem OhSt.setO {We W : World} {A O : Nat} {hs os : List Int} (h : OhSt We W A O hs os) (j : Nat) (v : Int) : OhSt We (W.setCell ⟨O, j, none⟩ (.int .i64 v)) A O hs (os.set j v) := by
  rw [setCell_eq_setRow W O j _ _ _ _ h.o]
  refine ⟨(setRow_other _ _ _ _ h.ne).trans h.a, ?_, below_setRow h.b h.lo _, h.ne, h.la, h.lo⟩
  rw [setRow_heap W O _ _ _ _ h.o]
  simp [List.map_set]
theorem OhSt.cellA {We W : World} {A O : Nat} {hs os : List Int} (h : OhSt We W A O hs os) {j : Nat} (hj : j < hs.length) : W.cell? ⟨A, j, none⟩ = some (.int .i64 (hs.getD j 0)) ∧ W.frozen? ⟨A, j, none⟩ = false := by
  refine ⟨cell_of h.a ?_, frozen_of_row _ _ _ _ _ h.a⟩
  rw [List.getD_eq_getElem?_getD, List.getElem?_eq_getElem hj]
  simp [hj]
theorem OhSt.cellO {We W : World} {A O : Nat} {hs os : List Int} (h : OhSt We W A O hs os) {j : Nat} (hj : j < os.length) : W.cell? ⟨O, j, none⟩ = some (.int .i64 (os.getD j 0)) ∧ W.frozen? ⟨O, j, none⟩ = false := by
  refine ⟨cell_of h.o ?_, frozen_of_row _ _ _ _ _ h.o⟩
  rw [List.getD_eq_getElem?_getD, List.getElem?_eq_getElem hj]
  simp [hj]
theorem ix_six (O g : Nat) (h : g < 6) : ∀ wx, (Instr.indexAt 39 (.pointer (some ⟨O, 0, none⟩)) (.int .i64 (g : Int))).run Try.prog wx = .ok (.pointer (some ⟨O, g, none⟩)) wx := by
  match g, h with
  | 0, _ => exact fun _ => by kernel_rfl
  | 1, _ => exact fun _ => by kernel_rfl
  | 2, _ => exact fun _ => by kernel_rfl
  | 3, _ => exact fun _ => by kernel_rfl
  | 4, _ => exact fun _ => by kernel_rfl
  | 5, _ => exact fun _ => by kernel_rfl
theorem ix_pair (b o : Nat) (k : Nat) (h : k < 2) : ∀ wx, (Instr.indexAt 41 (.pointer (some ⟨b, o, none⟩)) (.int .i64 (k : Int))).run Try.prog wx = .ok (.pointer (some ⟨b, o + k, none⟩)) wx := by
  intro wx
  have u := Try.underlying41
  have z := Try.sizeOf3
  match k, h with
  | 0, _ => simp [Instr.indexAt, run_underlying u, asIntOf, go_sem, z]
  | 1, _ => simp [Instr.indexAt, run_underlying u, asIntOf, go_sem, z]
/-- What high holds, as far as it is reckoned. -/
def hghTo (h : Nat → Int) (n j : Nat) : List Int := (List.range n).map fun i => if i < j then h i + 1 else 0
theorem hghTo_len (h : Nat → Int) (n j : Nat) : (hghTo h n j).length = n := by simp [hghTo]
theorem hghTo_get {h : Nat → Int} {n j i : Nat} (hi : i < n) : (hghTo h n j).getD i 0 = if i < j then h i + 1 else 0 := by
  simp [hghTo, List.getD_eq_getElem?_getD, hi]
theorem hghTo_more {h : Nat → Int} {n j : Nat} {v : Int} (hj : j < n) (hv : v = h j + 1) : (hghTo h n j).set j v = hghTo h n (j + 1) := by
  subst hv
  apply List.ext_getElem?
  intro q
  simp only [hghTo, List.getElem?_set, List.length_map, List.length_range, List.getElem?_map]
  by_cases c : j = q
  · subst c; simp [hj]
  · rw [if_neg c]
    by_cases d : q < n
    · simp only [List.getElem?_range d, Option.map_some]
      by_cases e : q < j
      · rw [if_pos e, if_pos (by omega)]
      · rw [if_neg e, if_neg (by omega)]
    · simp [List.getElem?_range, d]
theorem hghTo_zero (h : Nat → Int) (n : Nat) : (some (Obj.cells (List.replicate n (Value.int .i64 0)).toArray 3 (0, 0)) : Option Obj) = some (objInts (hghTo h n 0)) := by
  congr 2
  apply Array.ext'
  simp only [List.toList_toArray]
  apply List.ext_getElem?
  intro k
  by_cases c : k < n
  · simp [hghTo, c, List.getElem?_replicate, List.getElem?_range]
  · simp [hghTo, c, List.getElem?_replicate, List.getElem?_range]
/-- What own holds. -/
def ownTo (g : Nat → Nat) (j : Nat) : List Int := (List.range 6).map fun a => ((cnt (fun k => g k == a) j : Nat) : Int)
theorem ownTo_get {g : Nat → Nat} {j a : Nat} (ha : a < 6) : (ownTo g j).getD a 0 = (cnt (fun k => g k == a) j : Int) := by
  simp [ownTo, List.getD_eq_getElem?_getD, ha]
theorem ownTo_more {g : Nat → Nat} {j : Nat} (hg : g j < 6) : (ownTo g j).set (g j) ((cnt (fun k => g k == g j) j : Int) + 1) = ownTo g (j + 1) := by
  apply List.ext_getElem?
  intro q
  simp only [ownTo, List.getElem?_set, List.length_map, List.length_range, List.getElem?_map]
  by_cases c : g j = q
  · subst c
    simp [hg, cnt]
  · rw [if_neg c]
    by_cases d : q < 6
    · simp only [List.getElem?_range d, Option.map_some]
      have : (g j == q) = false := by simpa using c
      simp [cnt, this]
    · simp [List.getElem?_range, d]
end Go.Proofs.Ytkhhkgfaakgdfaa.pg
/- OrderHigh. -/
namespace Go.Proofs.Ytkhhkgfaakgdfaa.pg
open Go.ChangeShapes Go.WideShapes Go.ChangeAt Go.RowKit Go.Shelf
set_option linter.unusedVariables false
set_option linter.unusedSimpArgs false
set_option maxRecDepth 100000
attribute [local go_sem ↓] Go.wp_at_zero Go.wp_at_succ
set_option maxHeartbeats 2000000 in
theorem high_bad (l : List Ev) (la : Option Addr) (lc : Nat) (w : World) (hl : Rows w 26 la lc (l.map Ev.cells)) (c : Int) (hc : checkP l c) (h7 : c = 2 ∨ c = 7) : Calls Try.prog 8 #[.slice la l.length lc] w fun e w' => e = .returned (.bool true) ∧ Below w.heap.size w w' := by
  have hlI := rows_len hl
  have hlH : Hid (Rows w 26 la lc (l.map Ev.cells)) := hl
  have cS : ∀ wx, Calls Try.prog 16 #[] wx fun e w' => e = .returned (.bool true) ∧ Below wx.heap.size wx w' := fun wx => speaks12_any wx
  have cK : ∀ wx, Below w.heap.size w wx → Calls Try.prog 15 #[.slice la l.length lc] wx fun e w' => e = .returned (.int .i64 c) ∧ Below wx.heap.size wx w' := fun wx hb => rcheck_any l la lc wx (hlH.out.later hb) c hc
  have cC := height_bad l la lc w hl c hc h7
  clear hl hc
  rcases h7 with rfl | rfl
  all_goals
    go_enter Try.func8, Try.ntmps8
    go_wp2_with (first
      | (go_at_call 14; (with_reducible refine cC.mono ?_); rintro e w1 ⟨rfl, hb1⟩; (have hB : Hid (Below w.heap.size w w1) := hb1); clear hb1 cC)
      | (go_at_call 15; (with_reducible refine (cK _ hB.out).mono ?_); rintro e w2 ⟨rfl, hb2⟩; (have hB : Hid (Below w.heap.size w w2) := bthen hB.out hb2); clear hb2)
      | (go_at_call 16; (with_reducible refine (cS _).mono ?_); rintro e w4 ⟨rfl, hb4⟩; (have hB4 : Hid (Below w.heap.size w w4) := bthen hB.out hb4)))
    go_ret
    exact ⟨rfl, hB4.out⟩
theorem infoSix : (Try.prog.info? 39).map (fun i => (i.zero, i.size)) = some (some (.agg #[.int .i64 0, .int .i64 0, .int .i64 0, .int .i64 0, .int .i64 0, .int .i64 0]), 6) := by kernel_rfl
set_option maxHeartbeats 4000000 in
theorem high_in (l : List Ev) (la : Option Addr) (lc : Nat) (w : World) (hl : Rows w 26 la lc (l.map Ev.cells)) (hlen : l.length ≤ 256) (hrt : ∀ x ∈ l, rightP x) (hnn : 0 < l.length) : Calls Try.prog 8 #[.slice la l.length lc] w fun e w' => e = .returned (.bool true) ∧ Below w.heap.size w w' := by
  have hlI : (l.length : Int) ≤ 256 := by omega
  have hlH : Hid (Rows w 26 la lc (l.map Ev.cells)) := hl
  have hrtH : Hid (∀ x ∈ l, rightP x) := hrt
  have cS : ∀ wx, Calls Try.prog 16 #[] wx fun e w' => e = .returned (.bool true) ∧ Below wx.heap.size wx w' := fun wx => speaks12_any wx
  have cK : ∀ wx, Below w.heap.size w wx → Calls Try.prog 15 #[.slice la l.length lc] wx fun e w' => e = .returned (.int .i64 0) ∧ Below wx.heap.size wx w' := fun wx hb => rcheck_any l la lc wx (hlH.out.later hb) 0 (.inr (.inr ⟨hlen, hrt, rfl⟩))
  have cC := height_ok l la lc w hl hlen hrt
  have cE : ∀ wx, Below w.heap.size w wx → Calls Try.prog 12 #[.slice la l.length lc] wx fun e w' => ∃ da dc, ∃ D : List (Nat × Nat), e = .returned (.tuple #[.slice da D.length dc, .int .i64 0]) ∧ D.Perm (rel (evf l) l.length).2 ∧ D.Pairwise lex ∧ Rows w' 2 da dc (D.map edg) ∧ Below wx.heap.size wx w' := fun wx hb => edges_ok l la lc wx (hlH.out.later hb) hlen hrtH.out
  obtain ⟨hf, hhf⟩ : ∃ hf : Nat → Int, hf = fun j => (hfold l.length (rel (evf l) l.length).2).1.getD j 0 := ⟨_, rfl⟩
  have hgt := hgt_le hrt
  have hown := own_le hrt
  have hmst : mst hf l.length = (hfold l.length (rel (evf l) l.length).2).2 := by rw [hhf]; exact mst_is hrt
  have hvf : ∀ D : List (Nat × Nat), D.Perm (rel (evf l) l.length).2 → ∀ j, j < l.length → vfold hf j D = hf j + 1 := by intro D hD j hj; rw [hhf]; exact vfold_rel hrt hD hj
  have hfp : ∀ j, j < l.length → 0 ≤ hf j ∧ hf j + 1 ≤ l.length := by
    obtain ⟨B, hB⟩ := tells_some (dpf l)
    have h := hi_rel hrt hB
    intro j hj
    rw [hhf]
    have := h.pos j hj
    have := h.top j hj
    simp only
    omega
  have hpr : Hid (∀ p ∈ (rel (evf l) l.length).2, p.1 < p.2 ∧ p.2 < l.length) := rel_pairs (evf l) l.length
  obtain ⟨H, hH⟩ : ∃ H, (hfold l.length (rel (evf l) l.length).2).2 = H := ⟨_, rfl⟩
  rw [hH] at cC hgt hown hmst
  have hEl : Hid ((rel (evf l) l.length).2.length ≤ 65536) := by show _ ≤ _; have := rel_edges (evf l) l.length hlen; omega
  obtain ⟨hg0, hg1, hg2⟩ := hgt
  have hg1d : decide ((l.length : Int) < H) = false := by rw [decide_eq_false_iff_not]; omega
  have z3 : ∀ wx, (sizeOf 3).run Try.prog wx = .ok 1 wx := fun wx => Try.sizeOf3 wx
  have hg3 : decide (H < 1 ∧ (0 : Int) < l.length) = false := by
    rw [decide_eq_false_iff_not]
    rintro ⟨a, b⟩
    have := hg2 (by omega)
    omega
  have hownH : Hid (∀ g, (cnt (fun k => gof l k == g) l.length : Int) ≤ H) := hown
  have hmstH : Hid (mst hf l.length = H) := hmst
  have hvfH : Hid (∀ D : List (Nat × Nat), D.Perm (rel (evf l) l.length).2 → ∀ j, j < l.length → vfold hf j D = hf j + 1) := hvf
  have hfpH : Hid (∀ j, j < l.length → 0 ≤ hf j ∧ hf j + 1 ≤ l.length) := hfp
  have hg2H : Hid (0 < l.length → 1 ≤ H) := hg2
  obtain ⟨iN, hiN, hzN, hsN, hbN⟩ := info_q infoN_u
  have hb8 : iN.bytes * l.length ≤ 281474976710656 := by rw [hbN]; omega
  have iNH : Hid (Try.prog.info? 3 = some iN ∧ iN.zero = some (.int .i64 0) ∧ iN.size = 1 ∧ iN.bytes * l.length ≤ 281474976710656) := ⟨hiN, hzN, hsN, hb8⟩
  clear hl hrt hown hmst hvf hfp hH hhf hiN hzN hsN hbN hb8 hg3 hg2
  have hc1 : decide (H < 1) = false := by rw [decide_eq_false_iff_not]; have := hg2H.out hnn; omega
  go_enter Try.func8, Try.ntmps8
  go_wp2_with (first
    | (go_at_call 14; (with_reducible refine cC.mono ?_); rintro e w1 ⟨rfl, hb1⟩; (have hB : Hid (Below w.heap.size w w1) := hb1); clear hb1 cC)
    | (go_at_call 15; (with_reducible refine (cK _ hB.out).mono ?_); rintro e w2 ⟨rfl, hb2⟩; (have hB : Hid (Below w.heap.size w w2) := bthen hB.out hb2); clear hb2 cK)
    | (go_at_call 12; (with_reducible refine (cE _ hB.out).mono ?_); rintro e w3 ⟨da, dc, D, rfl, q1, q2, q3, q4⟩; (have hB3 : Hid (Below w.heap.size w w3) := bthen hB.out q4); (have hD : Hid (D.Perm (rel (evf l) l.length).2 ∧ Rows w3 2 da dc (D.map edg)) := ⟨q1, q3⟩); clear q1 q2 q3 q4 cE)
    | (refine wpList_mk _ rfl _ _ 30 rfl 3 iN (.int .i64 0) Try.underlying30 iNH.out.1 iNH.out.2.1 rfl iNH.out.2.2.1 l.length rfl rfl iNH.out.2.2.2 (by omega) ?_; intro W hwh hbW hsW))
  have hA : w3.heap.size + 1 = (w3.alloc (.cells #[.int .i64 0, .int .i64 0, .int .i64 0, .int .i64 0, .int .i64 0, .int .i64 0] 39)).heap.size := (World.size_alloc _ _).symm
  have s0 : Hid (OhSt w3 W (w3.heap.size + 1) w3.heap.size (hghTo hf l.length 0) (ownTo (gof l) 0)) := by
    refine ⟨by rw [hA, hwh, hghTo_zero], (hbW.block _ (by rw [World.size_alloc]; omega)).trans (heap_alloc_new _ _), bthen (boxed _ _) hbW, by omega, by omega, Nat.le_refl _⟩
  have hDl : Hid (D.length ≤ 65536) := by show _ ≤ _; rw [hD.out.1.length_eq]; exact hEl.out
  have hm0 : mst hf 0 = 0 := rfl
  generalize w3.heap.size + 1 = A at *
  clear hwh hbW hsW hA hc1
  have hDI : (D.length : Int) ≤ 65536 := by have := hDl.out; omega
  go_loopw [9, 10] (fun m u wr => ∃ j : Nat, j ≤ l.length ∧ u = .int .i64 j ∧ m = .int .i64 (mst hf j) ∧ Hid (OhSt w3 wr A w3.heap.size (hghTo hf l.length j) (ownTo (gof l) j))) (fun _ u _ => l.length - (intOf u).toNat)
  case atStart => exact ⟨0, Nat.zero_le _, rfl, by rw [hm0], s0⟩
  case round =>
    obtain ⟨j, hj, rfl, rfl, hs⟩ := hrel
    clear s0 hm0
    by_cases hlt : j < l.length
    · have hjI : (j : Int) < l.length := by omega
      have hBr := bthen hB3.out hs.out.b
      obtain ⟨eb, eo, e1, e2, e3⟩ := ev_row (hlH.out.later hBr) j _ (evf_at hlt)
      obtain ⟨g0, g6⟩ := (hrtH.out _ (List.mem_of_getElem? (evf_at hlt))).1
      have hgN : ((gof l j : Nat) : Int) = (evf l j).go := Int.toNat_of_nonneg g0
      have hg : gof l j < 6 := by unfold gof; omega
      have cG : wr.cell? ⟨eb, eo, none⟩ = some (.int .i64 (evf l j).go) := e3 0 _ rfl
      have x6 := ix_six w3.heap.size (gof l j) hg
      rw [hgN] at x6
      have cO := hs.out.cellO (j := gof l j) (by simp [ownTo]; exact hg)
      rw [ownTo_get hg] at cO
      have hcl := cnt_le (fun k => gof l k == gof l j) j
      have hw1 : wrap64 ((cnt (fun k => gof l k == gof l j) j : Int) + 1) = (cnt (fun k => gof l k == gof l j) j : Int) + 1 := by simp only [wrap64]; omega
      have xJ := ix_int A l.length j hlt
      have nx1 : ∀ W', W' = wr.setCell ⟨w3.heap.size, gof l j, none⟩ (.int .i64 ((cnt (fun k => gof l k == gof l j) j : Int) + 1)) → OhSt w3 W' A w3.heap.size (hghTo hf l.length j) (ownTo (gof l) (j + 1)) := fun W' e => by
        subst e
        have := hs.out.setO (gof l j) ((cnt (fun k => gof l k == gof l j) j : Int) + 1)
        rwa [ownTo_more hg] at this
      have nx1H : Hid (_) := nx1
      have cOH : Hid (_ ∧ _) := cO
      have cO1 := cO.1
      have hfj := hfpH.out j hlt
      clear e2 e3 g0 g6 hBr hgN hg nx1 cO hcl
      generalize (cnt (fun k => gof l k == gof l j) j : Int) = cv at *
      generalize (evf l j).go = gv at *
      go_wp2_with (first
        | (refine wpList_puti rfl 3 _ _ rfl ⟨w3.heap.size, gof l j, none⟩ rfl _ rfl (by kernel_rfl) _ cOH.out.1 cOH.out.2 ?_; intro W1 hW1; (have s1 : Hid (OhSt w3 W1 A w3.heap.size (hghTo hf l.length j) (ownTo (gof l) (j + 1))) := nx1H.out W1 (by rw [hW1, hw1])); clear hW1 nx1H cOH cO1 cG; (have cA := s1.out.cellA (j := j) (by rw [hghTo_len]; exact hlt)))
        | (refine wpList_puti rfl 3 _ _ rfl ⟨A, j, none⟩ rfl _ rfl (by kernel_rfl) _ cA.1 cA.2 ?_; intro W2 hW2; (have s2 : Hid (OhSt w3 W2 A w3.heap.size ((hghTo hf l.length j).set j (vfold hf j (D.take 0))) (ownTo (gof l) (j + 1))) := (by rw [hW2]; exact s1.out.setA j 1)); clear hW2 s1 cA))
      have hvf0 := hvfH.out D hD.out.1 j hlt
      have hvfJ : Hid (vfold hf j D = hf j + 1) := hvf0
      have hvI : Hid (∀ k, 1 ≤ vfold hf j (D.take k) ∧ vfold hf j (D.take k) ≤ hf j + 1) := by
        intro k
        have hX : ∀ p ∈ D, p.2 = j → hf p.1 + 2 ≤ hf j + 1 := fun p hp hpj => by
          have h1 := (vfold_in hf j (vfold hf j D + hf p.1 + 2 + 1000000) (by have := hfpH.out p.1 (by have := (hpr.out p (hD.out.1.mem_iff.mp hp)); omega); omega) _ D rfl (fun q hq hqj => by
            have := (hpr.out q (hD.out.1.mem_iff.mp hq))
            have h2 := hfpH.out q.1 (by omega)
            have h3 := hfpH.out p.1 (by have := (hpr.out p (hD.out.1.mem_iff.mp hp)); omega)
            omega)).2.2 p hp hpj
          omega
        have h2 := vfold_in hf j (hf j + 1) (by have := hfpH.out j hlt; omega) _ (D.take k) rfl fun p hp => hX p (List.mem_of_mem_take hp)
        exact ⟨h2.1, h2.2.1⟩
      clear hvf0 e1 x6 hw1
      go_loopw [11] (fun u wq => ∃ k : Nat, k ≤ D.length ∧ u = .int .i64 k ∧ Hid (OhSt w3 wq A w3.heap.size ((hghTo hf l.length j).set j (vfold hf j (D.take k))) (ownTo (gof l) (j + 1)))) (fun u _ => D.length - (intOf u).toNat)
      case atStart => exact ⟨0, Nat.zero_le _, rfl, s2⟩
      case round =>
        rename World => wq
        obtain ⟨k, hk, rfl, hs3⟩ := hrel
        clear s2
        have hll : ((hghTo hf l.length j).set j (vfold hf j (D.take k))).length = l.length := by rw [List.length_set, hghTo_len]
        have cJ := hs3.out.cellA (j := j) (by rw [hll]; exact hlt)
        have eJ : ((hghTo hf l.length j).set j (vfold hf j (D.take k))).getD j 0 = vfold hf j (D.take k) := by rw [getD_set0 _ _ _ (by rw [hghTo_len]; exact hlt), if_pos rfl]
        rw [eJ] at cJ
        by_cases hkt : k < D.length
        · have hkI : (k : Int) < D.length := by omega
          obtain ⟨p, hp, hpm⟩ := get_lt D k hkt
          obtain ⟨p1, p2⟩ := hpr.out p (hD.out.1.mem_iff.mp hpm)
          have hmore : Hid (vfold hf j (D.take (k + 1)) = vst hf j (vfold hf j (D.take k)) p) := by show _ = _; rw [take_one D k p hp, vfold_more]
          have hr : Rows wq 2 da dc (D.map edg) := hD.out.2.later hs3.out.b
          obtain ⟨b, o, hix, hbl, hrg⟩ := hr.ix 27 41 Try.underlying27 (by kernel_rfl) (fun wx => Try.sizeOf41 wx) k (row := edg p) (by simp [hp])
          rw [List.length_map] at hix
          have y0 : ∀ wx, (Instr.indexAt 41 (.pointer (some ⟨b, o, none⟩)) (.int .i64 0)).run Try.prog wx = .ok (.pointer (some ⟨b, o, none⟩)) wx := ix_pair b o 0 (by omega)
          have y1 : ∀ wx, (Instr.indexAt 41 (.pointer (some ⟨b, o, none⟩)) (.int .i64 1)).run Try.prog wx = .ok (.pointer (some ⟨b, o + 1, none⟩)) wx := ix_pair b o 1 (by omega)
          have d0 : wq.cell? ⟨b, o, none⟩ = some (.int .i64 (p.1 : Int)) := hrg 0 _ rfl
          have d1 : wq.cell? ⟨b, o + 1, none⟩ = some (.int .i64 (p.2 : Int)) := hrg 1 _ rfl
          have hvk := hvI.out k
          have nx : ∀ (v : Int) W', W' = (wq.setCell ⟨A, j, none⟩ (.int .i64 v)) → OhSt w3 W' A w3.heap.size ((hghTo hf l.length j).set j v) (ownTo (gof l) (j + 1)) := fun v W' e => by
            subst e
            have := hs3.out.setA j v
            rwa [List.set_set] at this
          have nxH : Hid (_) := nx
          clear hr hrg nx hbl
          by_cases hpj : p.2 = j
          · have cI := hs3.out.cellA (j := p.1) (by rw [hll]; omega)
            have eI : ((hghTo hf l.length j).set j (vfold hf j (D.take k))).getD p.1 0 = hf p.1 + 1 := by rw [getD_set0 _ _ _ (by rw [hghTo_len]; exact hlt), if_neg (by omega), hghTo_get (by omega), if_pos (by omega)]
            rw [eI] at cI
            have hfi := hfpH.out p.1 (by omega)
            have xI := ix_int A l.length p.1 (by omega)
            have cI1 := cI.1
            have cJ1 := cJ.1
            have cJH : Hid (_ ∧ _) := cJ
            have q1 : (p.1 : Int) < j := by omega
            have hvst : Hid (vst hf j (vfold hf j (D.take k)) p = if vfold hf j (D.take k) < hf p.1 + 1 + 1 then hf p.1 + 1 + 1 else vfold hf j (D.take k)) := by
              show _ = _
              unfold vst
              have e2 : hf p.1 + 2 = hf p.1 + 1 + 1 := by omega
              rw [e2]
              simp only [hpj, true_and]
            have hw3 : wrap64 (hf p.1 + 1 + 1) = hf p.1 + 1 + 1 := by simp only [wrap64]; omega
            rw [hpj] at d1
            clear eI eJ cI cJ hll p1 p2 hpm hp
            generalize vfold hf j (D.take k) = v at *
            generalize hf p.1 = hi at *
            generalize p.1 = pi at *
            by_cases hv : v < hi + 1 + 1
            · have hN : Hid (vfold hf j (D.take (k + 1)) = hi + 1 + 1) := by show _ = _; rw [hmore.out, hvst.out, if_pos hv]
              clear hmore hvst
              go_wp2_with fail
              go_quiet (fail)
              rename_i nq
              have nxQ : ∀ W', W' = ((wq.drewN nq).setCell ⟨A, j, none⟩ (.int .i64 (hi + 1 + 1))) → Hid (OhSt w3 W' A w3.heap.size ((hghTo hf l.length j).set j (hi + 1 + 1)) (ownTo (gof l) (j + 1))) := fun W' e => by
                subst e
                have := (hs3.out.later (below_drewN (Below.refl _ _) nq)).setA j (hi + 1 + 1)
                rwa [List.set_set] at this
              have cJ2 := cJH.out.2
              go_wp2
              go_roundw
              case rel => exact ⟨k + 1, by omega, by go_num, by rw [hN.out]; exact nxQ _ rfl⟩
              case measure => simp [intOf]; omega
            · have hN : Hid (vfold hf j (D.take (k + 1)) = v) := by show _ = _; rw [hmore.out, hvst.out, if_neg hv]
              have hd : decide (v < hi + 1 + 1) = false := by simpa using hv
              clear hmore hvst hv
              go_wp2_with fail
              go_quiet (fail)
              rename_i nq
              go_wp2
              go_roundw
              case rel => exact ⟨k + 1, by omega, by go_num, by rw [hN.out]; exact hs3.out.later (below_drewN (Below.refl _ _) nq)⟩
              case measure => simp [intOf]; omega
          · have hN : Hid (vfold hf j (D.take (k + 1)) = vfold hf j (D.take k)) := by show _ = _; rw [hmore.out]; unfold vst; rw [if_neg (fun q => hpj q.1)]
            have hd : ((p.2 : Int) == j) = false := by rw [beq_eq_false_iff_ne]; omega
            have hd2 : (p.2 : Int) ≠ j := by omega
            clear hmore hvk cJ eJ hll
            go_wp2_with fail
            go_quiet (fail)
            rename_i nq
            go_wp2
            go_roundw
            case rel => exact ⟨k + 1, by omega, by go_num, by rw [hN.out]; exact hs3.out.later (below_drewN (Below.refl _ _) nq)⟩
            case measure => simp [intOf]; omega
        · have hk2 : k = D.length := by omega
          subst hk2
          have s5 : Hid (OhSt w3 wq A w3.heap.size (hghTo hf l.length (j + 1)) (ownTo (gof l) (j + 1))) := by
            have := hs3.out
            rwa [List.take_length, hghTo_more hlt hvfJ.out] at this
          have cJ1 : wq.cell? ⟨A, j, none⟩ = some (.int .i64 (hf j + 1)) := by rw [cJ.1, List.take_length, hvfJ.out]
          have hmm : Hid (mst hf (j + 1) = if mst hf j < hf j + 1 then hf j + 1 else mst hf j) := rfl
          clear cJ eJ hll
          obtain ⟨mm, hmj⟩ : ∃ mm, mst hf j = mm := ⟨_, rfl⟩
          have hmm2 : Hid (mst hf (j + 1) = if mm < hf j + 1 then hf j + 1 else mm) := by show _ = _; rw [hmm.out, hmj]
          rw [hmj]
          clear hmm hmj
          generalize hf j + 1 = hv at *
          by_cases hmv : mm < hv
          · have hN : Hid (mst hf (j + 1) = hv) := by show _ = _; rw [hmm2.out, if_pos hmv]
            clear hmm2
            go_wp2
            go_roundw
            case rel => exact ⟨j + 1, by omega, by go_num, by rw [hN.out], s5⟩
            case measure => simp [intOf]; omega
          · have hN : Hid (mst hf (j + 1) = mm) := by show _ = _; rw [hmm2.out, if_neg hmv]
            clear hmm2
            go_wp2
            go_roundw
            case rel => exact ⟨j + 1, by omega, by go_num, by rw [hN.out], s5⟩
            case measure => simp [intOf]; omega
    · have hj2 : j = l.length := by omega
      subst hj2
      clear hlt
      rw [hmstH.out]
      go_wp2_with fail
      go_loopw [12] (fun u wq => ∃ k : Nat, k ≤ 6 ∧ u = .int .i64 k ∧ wq = wr) (fun u _ => 6 - (intOf u).toNat)
      case atStart => exact ⟨0, by omega, rfl, rfl⟩
      case round =>
        obtain ⟨k, hk, rfl, rfl⟩ := hrel
        by_cases hk6 : k < 6
        · have hkI : (k : Int) < 6 := by omega
          have cO := (hs.out.cellO (j := k) (by simp [ownTo]; exact hk6)).1
          rw [ownTo_get hk6] at cO
          have hle := hownH.out k
          have x6 := ix_six w3.heap.size k hk6
          generalize (cnt (fun q => gof l q == k) l.length : Int) = cv at *
          have hle2 : ¬ H < cv := by omega
          clear hle
          go_wp2
          go_roundw
          case rel => exact ⟨k + 1, by omega, by go_num, trivial⟩
          case measure => simp [intOf]; omega
        · have hk2 : k = 6 := by omega
          subst hk2
          go_wp2_with (go_at_call 16; (with_reducible refine (cS _).mono ?_); rintro e w9 ⟨rfl, hb9⟩; (have hB9 : Hid (Below w.heap.size w w9) := bthen (bthen hB3.out hs.out.b) hb9))
          go_ret
          exact ⟨rfl, hB9.out⟩
end Go.Proofs.Ytkhhkgfaakgdfaa.pg
