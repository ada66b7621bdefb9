/- The document's own Longest, in memory. -/
import Derived.Test.YtmgmiaonljcfcaaDoorM17
import Derived.Test.YtmgmiaonljcfcaaDoorM15
namespace Go.Proofs.YtmgmiaonljcfcaaDoor.pg
open Go.ChangeShapes Go.WideShapes Go.ChangeAt Go.RowKit Go.Shelf
set_option linter.unusedVariables false
set_option linter.unusedSimpArgs false
set_option maxRecDepth 100000
/-- The greatest of a start and what stands at some places, and one. -/
def mxL (g : Nat → Nat) (l : List Int) (a : Nat) : Nat := l.foldl (fun a x => if a < g x.toNat + 1 then g x.toNat + 1 else a) a
/-- How long the ways of at most so many instructions can be. -/
def lgN (f : Fn) : Nat → Nat → Nat
  | 0, _ => 0
  | r + 1, i => if prog.loc (insAt f.code i).op = true then mxL (lgN f r) (putAll [] (nxt f i)) 1 else 0
theorem mxL_more {g : Nat → Nat} {l : List Int} {k xn a : Nat} (h : l[k]? = some (xn : Int)) : mxL g (l.take (k + 1)) a = if mxL g (l.take k) a < g xn + 1 then g xn + 1 else mxL g (l.take k) a := by
  rw [← take_more h]
  unfold mxL
  rw [List.foldl_append]
  simp only [List.foldl_cons, List.foldl_nil, Int.toNat_natCast]
theorem mxL_le {g : Nat → Nat} {c : Nat} (hg : ∀ x, g x ≤ c) : ∀ (l : List Int) (a : Nat), a ≤ c + 1 → mxL g l a ≤ c + 1
  | [], a, h => h
  | x :: l, a, h => by
    show mxL g l _ ≤ _
    refine mxL_le hg l _ ?_
    have := hg x.toNat
    dsimp only
    split <;> omega
theorem lgN_le (f : Fn) : ∀ r i, lgN f r i ≤ r
  | 0, _ => Nat.le_refl _
  | r + 1, i => by
    rw [lgN]
    split
    · exact mxL_le (lgN_le f r) _ _ (by omega)
    · omega
/-- A local way leads from a place back to it. -/
def spP (f : Fn) (i : Nat) : Prop := prog.loc (insAt f.code i).op = true ∧ ∃ R, Least f (LL true) (puts (fun _ => false) (nxt f i)) R ∧ R i = true
theorem spP_iff {f : Fn} {i : Nat} {b : Bool} (h : prog.loc (insAt f.code i).op = false ∧ b = false ∨ prog.loc (insAt f.code i).op = true ∧ ∃ R, Least f (LL true) (puts (fun _ => false) (nxt f i)) R ∧ b = R i) : b = true ↔ spP f i := by
  rcases h with ⟨h1, h2⟩ | ⟨h1, R, h2, h3⟩
  · constructor
    · intro q; rw [h2] at q; cases q
    · intro q; have q1 := q.1; rw [h1] at q1; cases q1
  · constructor
    · intro q; exact ⟨h1, R, h2, h3 ▸ q⟩
    · rintro ⟨_, R', h4, h5⟩
      rw [h3, h2.same h4, h5]
theorem ix_il (A n cap : Nat) (j : Nat) (h : j < n) : ∀ wx, (Instr.indexAt 23 (.slice (some ⟨A, 0, none⟩) n cap) (.int .i64 (j : Int))).run Tryd.prog wx = .ok (.pointer (some ⟨A, j, none⟩)) wx := by
  intro wx
  have u := Tryd.underlying23
  have z := Tryd.sizeOf3
  have q1 : (j : Int) < n := by omega
  have q2 : ¬ (j : Int) < 0 := by omega
  simp [Instr.indexAt, run_underlying u, asIntOf, go_sem, z, q1, q2, h]
/-- A list of n numbers, in a block of its own. -/
structure Il (W : World) (lo B n : Nat) (f : Nat → Nat) : Prop where
  c : ∃ c, W.heap[B]? = some (.cells c 3 (0, 0)) ∧ ∀ j, j < n → c[j]? = some (.int .i64 (f j : Int))
  lo : lo ≤ B
theorem Il.lt {W : World} {lo B n : Nat} {f : Nat → Nat} (h : Il W lo B n f) : B < W.heap.size := by
  obtain ⟨c, h1, _⟩ := h.c
  exact (Array.getElem?_eq_some_iff.mp h1).1
theorem Il.keep {W W' : World} {lo B n : Nat} {f : Nat → Nat} (h : Il W lo B n f) (hb : W'.heap[B]? = W.heap[B]?) : Il W' lo B n f := ⟨by rw [hb]; exact h.c, h.lo⟩
theorem Il.later {W W' : World} {lo B n : Nat} {f : Nat → Nat} (h : Il W lo B n f) (hb : Below W.heap.size W W') : Il W' lo B n f := h.keep (hb.block B h.lt)
theorem Il.cell {W : World} {lo B n : Nat} {f : Nat → Nat} (h : Il W lo B n f) {j : Nat} (hj : j < n) : W.cell? ⟨B, j, none⟩ = some (.int .i64 (f j : Int)) ∧ W.frozen? ⟨B, j, none⟩ = false := by
  obtain ⟨c, h1, h2⟩ := h.c
  exact ⟨cell_ofF h1 (h2 j hj), frozen_of_row _ _ j _ _ h1⟩
theorem Il.set {W : World} {lo B n : Nat} {f : Nat → Nat} (h : Il W lo B n f) {j : Nat} (hj : j < n) (v : Nat) : Il (W.setCell ⟨B, j, none⟩ (.int .i64 (v : Int))) lo B n (fun b => if b = j then v else f b) := by
  obtain ⟨c, h1, h2⟩ := h.c
  refine ⟨⟨c.setIfInBounds j (.int .i64 (v : Int)), ?_, fun q hq => ?_⟩, h.lo⟩
  · rw [setCell_eq_setRow _ B j _ _ _ _ h1, setRow_heap _ B _ _ _ _ h1]
  · rw [Array.getElem?_setIfInBounds]
    have hs := (Array.getElem?_eq_some_iff.mp (h2 j hj)).1
    by_cases e : j = q
    · subst e
      rw [if_pos rfl, if_pos hs, if_pos rfl]
    · rw [if_neg e, if_neg (Ne.symm e)]
      exact h2 q hq
theorem Il.congr {W : World} {lo B n : Nat} {f g : Nat → Nat} (h : Il W lo B n f) (he : ∀ j, j < n → f j = g j) : Il W lo B n g := by
  obtain ⟨c, h1, h2⟩ := h.c
  exact ⟨⟨c, h1, fun j hj => by rw [h2 j hj, he j hj]⟩, h.lo⟩
theorem il_new {W : World} {lo B n : Nat} (h : W.heap[B]? = some (.cells (List.replicate n (Value.int .i64 0)).toArray 3 (0, 0))) (hl : lo ≤ B) : Il W lo B n fun _ => 0 :=
  ⟨⟨_, h, fun j hj => by simp [hj]⟩, hl⟩
/-- How all lies while the rounds go on. -/
structure L1 (w W : World) (M : MPr) (n A : Nat) (g : Nat → Nat) : Prop where
  b : Below w.heap.size w W
  p : W.heap[w.heap.size]? = some (objP M)
  a : Il W w.heap.size A n g
  n1 : w.heap.size ≠ A
structure L2 (w W : World) (M : MPr) (n A D : Nat) (g h : Nat → Nat) : Prop where
  o : L1 w W M n A g
  d : Il W w.heap.size D n h
  n2 : w.heap.size ≠ D
  n3 : A ≠ D
theorem L1.later {w W W' : World} {M : MPr} {n A : Nat} {g : Nat → Nat} (h : L1 w W M n A g) (hb : Below W.heap.size W W') : L1 w W' M n A g := ⟨bthen h.b hb, (hb.block _ (Array.getElem?_eq_some_iff.mp h.p).1).trans h.p, h.a.later hb, h.n1⟩
theorem L2.later {w W W' : World} {M : MPr} {n A D : Nat} {g h : Nat → Nat} (q : L2 w W M n A D g h) (hb : Below W.heap.size W W') : L2 w W' M n A D g h := ⟨q.o.later hb, q.d.later hb, q.n2, q.n3⟩
theorem L2.set {w W : World} {M : MPr} {n A D : Nat} {g h : Nat → Nat} (q : L2 w W M n A D g h) {j : Nat} (hj : j < n) (v : Nat) : L2 w (W.setCell ⟨D, j, none⟩ (.int .i64 (v : Int))) M n A D g (fun b => if b = j then v else h b) :=
  ⟨⟨q.o.b.setCell (p := ⟨D, j, none⟩) q.d.lo _, (Below.heap_setCell _ _ _ _ q.n2).trans q.o.p, q.o.a.keep (Below.heap_setCell _ _ _ _ q.n3), q.o.n1⟩, q.d.set hj v, q.n2, q.n3⟩
theorem L2.setI {w W : World} {M : MPr} {n A D : Nat} {g h : Nat → Nat} (q : L2 w W M n A D g h) {j : Nat} (hj : j < n) (v : Nat) : L2 w (W.setCell ⟨D, j, none⟩ (.int .i64 ((v : Int) + 1))) M n A D g (fun b => if b = j then v + 1 else h b) := by
  have := q.set hj (v + 1)
  rwa [Int.natCast_add, Int.natCast_one] at this
theorem L2.store {w W : World} {M : MPr} {n A D : Nat} {g t : Nat → Nat} {i mx gx mx' : Nat} (q : L2 w W M n A D g (fun b => if b = i then mx else t b)) (hi : i < n) (e : mx' = gx + 1) : L2 w (W.drew.setCell ⟨D, i, none⟩ (.int .i64 ((gx : Int) + 1))) M n A D g (fun b => if b = i then mx' else t b) := by
  have h1 := L2.setI (q.later (bey_drew W)) hi gx
  refine ⟨h1.o, h1.d.congr fun j _ => ?_, h1.n2, h1.n3⟩
  by_cases c : j = i
  · rw [if_pos c, if_pos c, e]
  · rw [if_neg c, if_neg c, if_neg c]
theorem L2.stay {w W : World} {M : MPr} {n A D : Nat} {g t : Nat → Nat} {i mx mx' : Nat} (q : L2 w W M n A D g (fun b => if b = i then mx else t b)) (e : mx' = mx) : L2 w W.drew M n A D g (fun b => if b = i then mx' else t b) := by
  subst e
  exact q.later (bey_drew W)
theorem own_store {W : World} {lo D i : Nat} {v : Value} {e k : Nat} {a : Option Addr} {cap : Nat} {L : List (List Value)} (h : OwnL W lo e k a cap L) (hD : D < lo) : OwnL (W.drew.setCell ⟨D, i, none⟩ v) lo e k a cap L := own_keep h fun g hg => (Below.heap_setCell _ _ _ _ (by have := (blk_lt h g hg).1; show g ≠ D; omega)).trans ((bey_drew W).block g (blk_lt h g hg).2)
theorem own_stay {W : World} {lo e k : Nat} {a : Option Addr} {cap : Nat} {L : List (List Value)} (h : OwnL W lo e k a cap L) : OwnL W.drew lo e k a cap L := own_keep h fun g hg => (bey_drew W).block g (blk_lt h g hg).2
theorem L1.box {w W : World} {M : MPr} {n A : Nat} {g : Nat → Nat} (h : L1 w W M n A g) : BoxP W w.heap.size M := ⟨cell_ofF h.p rfl, cell_ofF h.p rfl, cell_ofF h.p rfl, cell_ofF h.p rfl⟩
/-- The first i of the next round. -/
def lgT (f : Fn) (r i : Nat) : Nat → Nat := fun j => if j < i then lgN f (r + 1) j else 0
theorem lg_rd {w W : World} {M : MPr} {n A D i k xn r lo2 : Nat} {f : Fn} {L : List Int} {va : Option Addr} {vc : Nat} (hj : L2 w W M n A D (lgN f r) (fun b => if b = i then mxL (lgN f r) (L.take k) 1 else lgT f r i b) ∧ OwnL W lo2 3 1 va vc (L.map chCells)) (hi : i < n) (hx : L[k]? = some (xn : Int)) (hxn : xn < n) (hr : r < n) (hn : n ≤ 64) (hD : D < lo2) :
    ∃ mx gx : Int, W.cell? ⟨A, xn, none⟩ = some (.int .i64 gx) ∧ W.cell? ⟨D, i, none⟩ = some (.int .i64 mx) ∧ W.frozen? ⟨D, i, none⟩ = false ∧ wrap64 (gx + 1) = gx + 1 ∧
      ((decide (mx < gx + 1) = true ∧ Hid (∀ W', Below W.heap.size W W' → L2 w (W'.setCell ⟨D, i, none⟩ (.int .i64 (gx + 1))) M n A D (lgN f r) (fun b => if b = i then mxL (lgN f r) (L.take (k + 1)) 1 else lgT f r i b) ∧ OwnL (W'.setCell ⟨D, i, none⟩ (.int .i64 (gx + 1))) lo2 3 1 va vc (L.map chCells)))
        ∨ (decide (mx < gx + 1) = false ∧ Hid (∀ W', Below W.heap.size W W' → L2 w W' M n A D (lgN f r) (fun b => if b = i then mxL (lgN f r) (L.take (k + 1)) 1 else lgT f r i b) ∧ OwnL W' lo2 3 1 va vc (L.map chCells)))) := by
  have hmore := mxL_more (g := lgN f r) (a := 1) hx
  have hgx := lgN_le f r xn
  have cA := (hj.1.o.a.cell hxn).1
  obtain ⟨cD, fD⟩ := hj.1.d.cell hi
  simp only [if_pos] at cD
  refine ⟨((mxL (lgN f r) (L.take k) 1 : Nat) : Int), ((lgN f r xn : Nat) : Int), cA, cD, fD, by unfold wrap64; omega, ?_⟩
  generalize mxL (lgN f r) (L.take k) 1 = mx at *
  generalize mxL (lgN f r) (L.take (k + 1)) 1 = mx' at *
  generalize lgN f r xn = gx at *
  generalize lgN f r = g at *
  generalize lgT f r i = t at *
  have hown : ∀ W', Below W.heap.size W W' → L2 w W' M n A D g (fun b => if b = i then mx else t b) ∧ OwnL W' lo2 3 1 va vc (L.map chCells) := by
    intro W' hb
    exact ⟨hj.1.later hb, own_keep hj.2 fun g hg => hb.block g (blk_lt hj.2 g hg).2⟩
  by_cases hgt : mx < gx + 1
  · refine .inl ⟨decide_eq_true (by omega), fun W' hW => ?_⟩
    obtain ⟨h1, h2⟩ := hown W' hW
    have h3 := L2.setI h1 hi gx
    refine ⟨⟨h3.o, h3.d.congr fun j _ => ?_, h3.n2, h3.n3⟩, own_keep h2 fun g hg => Below.heap_setCell _ _ _ _ (by have := (blk_lt h2 g hg).1; show g ≠ D; omega)⟩
    rw [hmore, if_pos hgt]
    by_cases c : j = i
    · rw [if_pos c, if_pos c]
    · rw [if_neg c, if_neg c, if_neg c]
  · refine .inr ⟨decide_eq_false (by omega), fun W' hW => ?_⟩
    rw [hmore, if_neg hgt]
    exact hown W' hW
/-- What Longest tells. -/
def LgD (f : Fn) (pc : Nat) (r : Int) : Prop := ∃ on, Least f (LL true) (onePl pc) on ∧ ((∃ i, i < f.code.length ∧ on i = true ∧ spP f i) ∧ r = -1 ∨ (∀ i, i < f.code.length → on i = true → ¬ spP f i) ∧ r = (lgN f f.code.length pc : Int))
end Go.Proofs.YtmgmiaonljcfcaaDoor.pg
/- The statements' own little program: yield and end. -/
namespace Go.Proofs.YtmgmiaonljcfcaaDoor.pg
open Go.ChangeShapes Go.WideShapes Go.ChangeAt Go.RowKit Go.Shelf
set_option linter.unusedVariables false
set_option linter.unusedSimpArgs false
set_option maxRecDepth 100000
theorem rows_ofF {w : World} {B : Nat} {cs : List Value} {t : TypeId} (h : w.heap[B]? = some (.cells cs.toArray t (0, 0))) {off k cap : Nat} (L : List (List Value)) (hk : ∀ row ∈ L, row.length = k) (hc : L.length ≤ cap) (hm : cap ≤ 9223372036854775807) (a c : List Value) (e : cs = a ++ (L.flatten ++ c)) (ho : a.length = off) : Rows w k (some ⟨B, off, none⟩) cap L := by
  refine ⟨hc, hm, by simp, .inr ⟨B, off, rfl, (Array.getElem?_eq_some_iff.mp h).1, fun i row hi => ⟨hk row (List.mem_of_getElem? hi), fun j u hj => cell_ofF h ?_⟩⟩⟩
  have hjk : j < k := by rw [← hk row (List.mem_of_getElem? hi)]; exact (List.getElem?_eq_some_iff.mp hj).1
  have := flatten_at L hk i row hi j hjk
  rw [hj] at this
  have hlt := (List.getElem?_eq_some_iff.mp this).1
  rw [List.getElem?_toArray, e, List.getElem?_append_right (by omega), ho, Nat.add_sub_cancel_left, List.getElem?_append_left hlt]
  exact this
def litY : Fn := ⟨0, 0, [⟨64, 0, 0, 0, 0⟩, ⟨45, 0, 0, 0, 0⟩], []⟩
def litYP : Pr := ⟨[], 0, [], [litY]⟩
theorem chk_litY : chk insP litYP = (0, 0, 0) := by decide
/-- The program: its code in block B, its function in B + 1. -/
def litYF (B : Nat) : MFn := ⟨0, 0, some ⟨B, 0, none⟩, 2, [⟨64, 0, 0, 0, 0⟩, ⟨45, 0, 0, 0, 0⟩], none, 0, []⟩
def litYM (B : Nat) : MPr := ⟨none, 0, [], 0, none, 0, [], some ⟨B + 1, 0, none⟩, 1, [litYF B]⟩
theorem litYM_pr (B : Nat) : (litYM B).pr = litYP := rfl
theorem rows_nilF (w : World) (k : Nat) : Rows w k none 0 [] := ⟨by simp, by simp, by simp, .inl rfl⟩
theorem i0F : I64 0 := ⟨by decide, by decide⟩
theorem litY_lies {w : World} {B : Nat} (h2 : w.heap[B]? = some (.cells #[.int .i64 64, .int .i64 0, .int .i64 0, .int .i64 0, .int .i64 0, .int .i64 45, .int .i64 0, .int .i64 0, .int .i64 0, .int .i64 0] 72))
    (h3 : w.heap[B + 1]? = some (.cells #[.int .i64 0, .int .i64 0, .slice (some ⟨B, 0, none⟩) 2 2, .slice none 0 0] 65)) : (litYM B).lies w := by
  refine ⟨rows_nilF w 2, rows_nilF w 1, rows_ofF (cs := [.int .i64 0, .int .i64 0, .slice (some ⟨B, 0, none⟩) 2 2, .slice none 0 0]) h3 [[.int .i64 0, .int .i64 0, .slice (some ⟨B, 0, none⟩) 2 2, .slice none 0 0]] (by simp) (by simp [litYM]) (by simp [litYM]) [] [] rfl rfl, by simp [litYM], i0F, by simp [litYM], ?_⟩
  intro f hf
  simp only [litYM, List.mem_singleton] at hf
  subst hf
  refine ⟨rows_ofF (cs := [.int .i64 64, .int .i64 0, .int .i64 0, .int .i64 0, .int .i64 0, .int .i64 45, .int .i64 0, .int .i64 0, .int .i64 0, .int .i64 0]) h2 [[.int .i64 64, .int .i64 0, .int .i64 0, .int .i64 0, .int .i64 0], [.int .i64 45, .int .i64 0, .int .i64 0, .int .i64 0, .int .i64 0]] (by simp) (by simp [litYF]) (by simp [litYF]) [] [] rfl rfl, rows_nilF w 2, ?_, by simp [litYF], i0F, i0F⟩
  intro x hx
  simp only [litYF, List.mem_cons, List.not_mem_nil, or_false] at hx
  rcases hx with rfl | rfl <;> (unfold Ins.wf I64; decide)
theorem litY_flow : FlowF litY := flow_of (P := litYP) (by rw [chk_litY]) litY (by simp [litYP])
theorem litY_nxt : lst (bAll litY (onePl 0) 2) 64 = [1] := by decide +kernel
theorem litY_least : Least litY alw (onePl 0) (fun k => decide (k < 2)) := by
  refine ⟨fun k h => ?_, fun pc hp _ _ x hx => ?_, fun R h1 h2 k hk => ?_⟩
  · have : k = 0 := by simpa [onePl] using h
    subst this; rfl
  · have hp2 : pc < 2 := hp
    match pc, hp2, hx with
    | 0, _, hx =>
      have : x = 1 := by simpa [nxt, nxtI, litY, insAt] using hx
      subst this; rfl
    | 1, _, hx => simp [nxt, nxtI, litY, insAt] at hx
  · have r0 : R 0 = true := h1 0 (by simp [onePl])
    have r1 : R 1 = true := h2 0 (by decide) r0 rfl 1 (by decide)
    have hk2 : k < 2 := by simpa using hk
    match k, hk2 with
    | 0, _ => exact r0
    | 1, _ => exact r1
theorem litY_reach {R : Nat → Bool} (h : Least litY alw (onePl 0) R) : lst R 64 = [0, 1] := by
  rw [h.same litY_least]
  decide +kernel
theorem litY_e0 : ¬ noneP (endsF litY 1 0) := fun h => by
  have := h 1 (by omega)
  have h2 : endsF litY 1 0 1 = true := by decide +kernel
  rw [h2] at this
  cases this
theorem litY_e1 : noneP (endsF litY 1 1) := fun k hk => by
  have h : ∀ k : Fin 64, endsF litY 1 1 k.val = false := by decide +kernel
  exact h ⟨k, hk⟩
theorem litY_long {r : Int} (h : LngR litY 1 r) : r = 1 := by
  rcases h with ⟨n, h1, h2, h3, h4⟩ | ⟨h1, _⟩
  · have n0 : n ≠ 0 := fun e => by subst e; exact litY_e0 h2
    have n1 : n ≤ 1 := Nat.le_of_not_lt fun e => h3 1 e litY_e1
    have : n = 1 := by omega
    subst this
    exact h4
  · exact absurd litY_e1 (h1 1 (by decide))
theorem litY_fit (pc : Int) : fitP litYP 0 pc = if 0 ≤ pc ∧ pc < 2 then 0 else 1 := by
  have h0 : fitF litYP 0 = 0 := by rw [fitF, if_pos (by rw [chk_litY])]; rfl
  rw [fitP, if_pos h0]
  rfl
theorem rows_litF (w : World) (l : List Int) (o : Obj) (ho : o = .cells (l.map fun x => Value.int .i64 x).toArray 3) (hl : l.length ≤ 9) : Rows (w.alloc o) 1 (some ⟨w.heap.size, 0, none⟩) l.length (l.map chCells) := by
  subst ho
  refine rows_ofF (cs := l.map fun x => Value.int .i64 x) (heap_alloc_new w _) (l.map chCells) (by intro r hr; simp only [List.mem_map] at hr; obtain ⟨x, _, rfl⟩ := hr; rfl) (by simp) (by omega) [] [] ?_ rfl
  clear hl
  induction l with
  | nil => rfl
  | cons a l ih => rw [List.map_cons, List.map_cons, List.flatten_cons, ih]; simp [chCells]
set_option maxHeartbeats 4000000 in
theorem speaksF_any (w : World) (hF : prog.Forms w) : Calls Tryd.prog 12 #[] w fun e w' => e = .returned (.bool true) ∧ Below w.heap.size w w' := by
  obtain ⟨h1, h2, h3⟩ := three_new w (.cells #[.int .i64 64, .int .i64 0, .int .i64 0, .int .i64 0, .int .i64 0, .int .i64 45, .int .i64 0, .int .i64 0, .int .i64 0, .int .i64 0] 72) (.cells #[.int .i64 0, .int .i64 0, .slice (some ⟨w.heap.size, 0, none⟩) 2 2, .slice none 0 0] 65) (.cells #[.slice none 0 0, .int .i64 0, .slice none 0 0, .slice (some ⟨w.heap.size + 1, 0, none⟩) 1 1] 26)
  have hb := boxed3 w (.cells #[.int .i64 64, .int .i64 0, .int .i64 0, .int .i64 0, .int .i64 0, .int .i64 45, .int .i64 0, .int .i64 0, .int .i64 0, .int .i64 0] 72) (.cells #[.int .i64 0, .int .i64 0, .slice (some ⟨w.heap.size, 0, none⟩) 2 2, .slice none 0 0] 65) (.cells #[.slice none 0 0, .int .i64 0, .slice none 0 0, .slice (some ⟨w.heap.size + 1, 0, none⟩) 1 1] 26)
  have hlies := litY_lies h1 h2
  have hFH : Hid (prog.Forms w) := hF
  clear h1 h2 hF
  go_enter Tryd.func12, Tryd.ntmps12
  go_upto_region 2 with fail
  generalize ((w.alloc (.cells #[.int .i64 64, .int .i64 0, .int .i64 0, .int .i64 0, .int .i64 0, .int .i64 45, .int .i64 0, .int .i64 0, .int .i64 0, .int .i64 0] 72)).alloc (.cells #[.int .i64 0, .int .i64 0, .slice (some ⟨w.heap.size, 0, none⟩) 2 2, .slice none 0 0] 65)).alloc (.cells #[.slice none 0 0, .int .i64 0, .slice none 0 0, .slice (some ⟨w.heap.size + 1, 0, none⟩) 1 1] 26) = W at *
  have hbP : Hid (BoxP W (w.heap.size + 1 + 1) (litYM w.heap.size)) := ⟨cell_ofF h3 rfl, cell_ofF h3 rfl, cell_ofF h3 rfl, cell_ofF h3 rfl⟩
  have hlH : Hid ((litYM w.heap.size).lies W) := hlies
  have hbH : Hid (Below w.heap.size w W) := hb
  have cN : ∀ V, Below W.heap.size W V → Calls Tryd.prog 8 #[(litYM w.heap.size).val, .int .i64 0, .int .i64 0] V fun e w' => ∃ va vc, e = .returned (.tuple #[.slice va 1 vc, .int .i64 0]) ∧ Rows w' 1 va vc ([1].map chCells) ∧ Below V.heap.size V w' := fun V hV => by
    have := fnext_ok (litYM w.heap.size) 0 0 V (hlH.out.later hV) (hFH.out.later (bthen hbH.out hV)) (litYF w.heap.size) rfl litY_flow (by omega) (show 0 < 2 by omega) (by rw [litYM_pr, litY_fit]; rfl)
    refine this.mono ?_
    rintro e w' ⟨va, vc, rfl, hr, hb'⟩
    have e1 : lst (bAll (litYF w.heap.size).fn (onePl 0) (litYF w.heap.size).code.length) 64 = [1] := litY_nxt
    rw [e1] at hr ⊢
    exact ⟨va, vc, rfl, hr, hb'⟩
  have cR : ∀ V, Below W.heap.size W V → Calls Tryd.prog 9 #[(litYM w.heap.size).val, .int .i64 0, .int .i64 0] V fun e w' => ∃ va vc, e = .returned (.tuple #[.slice va 2 vc, .int .i64 0]) ∧ Rows w' 1 va vc ([0, 1].map chCells) ∧ Below V.heap.size V w' := fun V hV => by
    have := freach_ok (litYM w.heap.size) 0 0 V (hlH.out.later hV) (hFH.out.later (bthen hbH.out hV)) (litYF w.heap.size) rfl litY_flow (by omega) (show 0 < 2 by omega) (by rw [litYM_pr, litY_fit]; rfl)
    refine this.mono ?_
    rintro e w' ⟨R, va, vc, rfl, hR, hr, hb'⟩
    have e1 : lst R 64 = [0, 1] := litY_reach hR
    rw [e1] at hr ⊢
    exact ⟨va, vc, rfl, hr, hb'⟩
  have cL : ∀ V, Below W.heap.size W V → Calls Tryd.prog 10 #[(litYM w.heap.size).val, .int .i64 0, .int .i64 1] V fun e w' => e = .returned (.tuple #[.int .i64 1, .int .i64 0]) ∧ Below V.heap.size V w' := fun V hV => by
    have := flong_ok (litYM w.heap.size) 0 1 V (hlH.out.later hV) (hFH.out.later (bthen hbH.out hV)) (litYF w.heap.size) rfl litY_flow (by omega) (show 1 < 2 by omega) (by rw [litYM_pr, litY_fit]; rfl)
    refine this.mono ?_
    rintro e w' ⟨r, rfl, hr, hb'⟩
    rw [litY_long hr]
    exact ⟨rfl, hb'⟩
  have cE : ∀ V, Below W.heap.size W V → Calls Tryd.prog 8 #[(litYM w.heap.size).val, .int .i64 0, .int .i64 2] V fun e w' => e = .returned (.tuple #[.slice none 0 0, .int .i64 1]) ∧ Below V.heap.size V w' := fun V hV => fnext_err (litYM w.heap.size) 0 2 V (hlH.out.later hV) (hFH.out.later (bthen hbH.out hV)) 1 (by show _ = _; rw [litYM_pr, litY_fit]; rfl) (by omega)
  generalize w.heap.size + 1 + 1 = PB at *
  obtain ⟨p0, p1, p2, p3⟩ := hbP.out
  have xN := cN W (Below.refl _ _)
  clear h3 hlies hb cN
  go_upto_region 3 with (go_at_call 8; (refine xN.mono ?_); rintro e w2 ⟨va, vc, rfl, hr2, hb2⟩)
  clear p0 p1 p2 p3 xN
  have hN2 : Hid (Rows w2 1 va vc ([1].map chCells)) := hr2
  have hW2 : Hid (Below W.heap.size W w2) := hb2
  have xR := cR w2 hb2
  obtain ⟨p0, p1, p2, p3⟩ := hbP.out.later hb2
  clear hr2 hb2 cR
  go_upto_region 4 with (go_at_call 9; (refine xR.mono ?_); rintro e w3 ⟨ua, uc, rfl, hr3, hb3⟩)
  clear p0 p1 p2 p3 xR
  have hW3 : Hid (Below W.heap.size W w3) := bthen hW2.out hb3
  have hN3 : Hid (Rows w3 1 va vc ([1].map chCells)) := hN2.out.later hb3
  have hR3 : Hid (Rows w3 1 ua uc ([0, 1].map chCells)) := hr3
  have xL := cL w3 hW3.out
  obtain ⟨p0, p1, p2, p3⟩ := hbP.out.later hW3.out
  clear hr3 hb3 cL hN2 hW2
  go_upto_region 5 with (go_at_call 10; (refine xL.mono ?_); rintro e w4 ⟨rfl, hb4⟩)
  clear p0 p1 p2 p3 xL
  have hW4 : Hid (Below W.heap.size W w4) := bthen hW3.out hb4
  have hN4 : Hid (Rows w4 1 va vc ([1].map chCells)) := hN3.out.later hb4
  have hR4 : Hid (Rows w4 1 ua uc ([0, 1].map chCells)) := hR3.out.later hb4
  have xE := cE w4 hW4.out
  obtain ⟨p0, p1, p2, p3⟩ := hbP.out.later hW4.out
  clear hb4 cE hN3 hW3 hR3
  go_upto_region 6 with (go_at_call 8; (refine xE.mono ?_); rintro e w5 ⟨rfl, hb5⟩)
  clear p0 p1 p2 p3 xE
  have hW5 : Hid (Below W.heap.size W w5) := bthen hW4.out hb5
  have hN5 : Hid (Rows w5 1 va vc ([1].map chCells)) := hN4.out.later hb5
  have hR5 : Hid (Rows w5 1 ua uc ([0, 1].map chCells)) := hR4.out.later hb5
  have hb6 := boxed w5 (.cells #[.int .i64 1] 3)
  have xS := sameInts_f [1] va (some ⟨w5.heap.size, 0, none⟩) vc 1 _ (hN5.out.later hb6) (rows_litF w5 [1] _ rfl (by decide))
  have cT : ∀ V, Below w5.heap.size w5 V → Calls Tryd.prog 13 #[.slice ua 2 uc, .slice (some ⟨V.heap.size, 0, none⟩) 2 2] (V.alloc (.cells #[.int .i64 0, .int .i64 1] 3)) fun e w' => e = .returned (.bool true) ∧ Below (V.alloc (.cells #[.int .i64 0, .int .i64 1] 3)).heap.size (V.alloc (.cells #[.int .i64 0, .int .i64 1] 3)) w' := fun V hV => sameInts_f [0, 1] ua (some ⟨V.heap.size, 0, none⟩) uc 2 _ ((hR5.out.later hV).later (boxed _ _)) (rows_litF V [0, 1] _ rfl (by decide))
  have hb6H : Hid (Below w5.heap.size w5 (w5.alloc (.cells #[.int .i64 1] 3))) := hb6
  clear hb5 hN4 hW4 hR4 hb6
  go_wp2_with (first
    | (go_at_call 13; (refine xS.mono ?_); clear xS; rintro e w6 ⟨rfl, hb6⟩; (have xT := cT w6 (bthen hb6H.out hb6)); (have hW6 : Hid (Below W.heap.size W w6) := bthen hW5.out (bthen hb6H.out hb6)); clear hb6)
    | (go_at_call 13; (refine xT.mono ?_); rintro e w7 ⟨rfl, hb7⟩))
  go_ret
  exact ⟨rfl, bthen (bthen (bthen hbH.out hW6.out) (boxed _ _)) hb7⟩
end Go.Proofs.YtmgmiaonljcfcaaDoor.pg
/- FlowGrows, walked. -/
namespace Go.Proofs.YtmgmiaonljcfcaaDoor.pg
open Go.ChangeShapes Go.WideShapes Go.ChangeAt Go.RowKit Go.Shelf
set_option linter.unusedVariables false
set_option linter.unusedSimpArgs false
set_option maxRecDepth 100000
theorem least_lt {f : Fn} (hf : FlowF f) {pc : Nat} (hp : pc < f.code.length) {R : Nat → Bool} (h : Least f alw (onePl pc) R) : ∀ k, R k = true → k < f.code.length := fun k hk => by
  have := h.le (fun k => decide (k < f.code.length)) (fun k q => by
    have : k = pc := by simpa [onePl] using q
    subst this; simpa using hp) (fun p hp' _ _ x hx => by
    have := hf.n p hp' x hx
    simp only [decide_eq_true_eq]
    omega) k hk
  simpa using this
theorem least_own {f : Fn} {pc : Nat} {R : Nat → Bool} (h : Least f alw (onePl pc) R) : R pc = true := h.up pc (by simp [onePl])
theorem least_in {f : Fn} {pc k : Nat} {R R2 : Nat → Bool} (h : Least f alw (onePl pc) R) (h2 : Least f alw (onePl k) R2) (hk : R k = true) : ∀ m, R2 m = true → R m = true := h2.le R (fun j q => by
  have : j = k := by simpa [onePl] using q
  subst this; exact hk) h.cl
theorem next_in {f : Fn} {k : Nat} {x : Int} (h : x ∈ lst (bAll f (onePl k) f.code.length) 64) : x ∈ nxt f k := by
  obtain ⟨j, hj, h1, rfl⟩ := (lst_mem _ _ _).mp h
  obtain ⟨pc, h2, h3, h4⟩ := (bAll_iff _ _ _ _).mp h1
  have : pc = k := by simpa [onePl] using h3
  subst this
  exact h4
theorem lst_put {R : Nat → Bool} {x : Int} (h0 : 0 ≤ x) (h1 : x < 64) (h : R x.toNat = true) : x ∈ lst R 64 := (lst_mem _ _ _).mpr ⟨x.toNat, by omega, h, by omega⟩
structure GS (w wr : World) (M : MPr) (L : List Int) (la : Option Addr) (lc : Nat) : Prop where
  b : Below w.heap.size w wr
  p : BoxP wr w.heap.size M
  r : Rows wr 1 la lc (L.map chCells)
theorem GS.later {w wr w' : World} {M : MPr} {L : List Int} {la : Option Addr} {lc : Nat} (h : GS w wr M L la lc) (hb : Below wr.heap.size wr w') : GS w w' M L la lc := ⟨bthen h.b hb, h.p.later hb, h.r.later hb⟩
set_option maxHeartbeats 8000000 in
theorem grows_any (M : MPr) (f pc : Int) (w : World) (hM : M.lies w) (hF : prog.Forms w) : Calls Tryd.prog 6 #[M.val, .int .i64 f, .int .i64 pc] w fun e w' => e = .returned (.bool true) ∧ Below w.heap.size w w' := by
  have hb := boxed w (objP M)
  have bP := boxP_new w M
  have bPH : Hid (BoxP (w.alloc (objP M)) w.heap.size M) := bP
  have hbH : Hid (Below w.heap.size w (w.alloc (objP M))) := hb
  have hMH : Hid (M.lies w) := hM
  have hPH : Hid (prog.Forms w) := hF
  obtain ⟨e, he⟩ : ∃ e, Hid (e = fitP M.pr f pc) := ⟨_, rfl⟩
  by_cases e0 : e = 0
  rotate_left
  · have xR := freach_err M f pc _ (hM.later hb) (hF.later hb) e he e0
    have cI : ∀ V, Below w.heap.size w V → Calls Tryd.prog 11 #[M.val, .int .i64 f, .int .i64 pc] V fun e' w' => e' = .returned (.int .i64 e) ∧ Below V.heap.size V w' := fun V hV => rfit_any M f pc V (hMH.out.later hV) e he
    have cS : ∀ V, Below w.heap.size w V → Calls Tryd.prog 12 #[] V fun e' w' => e' = .returned (.bool true) ∧ Below V.heap.size V w' := fun V hV => speaksF_any V (hPH.out.later hV)
    have d : (e != 0) = true := by simpa using e0
    clear hM hF hb e0 he
    go_enter Tryd.func6, Tryd.ntmps6
    go_wp2_with (first
      | (go_at_call 9; (refine xR.mono ?_); rintro e' w2 ⟨rfl, hb2⟩; clear bP; (have bP := bPH.out.later hb2); obtain ⟨p0, p1, p2, p3⟩ := bP; (have xI := cI w2 (bthen hbH.out hb2)))
      | (go_at_call 11; (refine xI.mono ?_); rintro e' w3 ⟨rfl, hb3⟩; (have hB3 : Hid (Below w.heap.size w w3) := bthen (bthen hbH.out hb2) hb3); (have xS := cS w3 hB3.out))
      | (go_at_call 12; (refine xS.mono ?_); rintro e' w4 ⟨rfl, hb4⟩))
    go_ret
    exact ⟨rfl, bthen hB3.out hb4⟩
  subst e0
  have hfit : fitP M.pr f pc = 0 := he.out.symm
  have hff : fitF M.pr f = 0 := by
    apply Classical.byContradiction
    intro q
    rw [fitP, if_neg q] at hfit
    exact q hfit
  obtain ⟨F, hFi, hFm, eF⟩ := fn_get hff
  obtain ⟨hok, f0, f1⟩ := fitF_ok hff
  have hpp : 0 ≤ pc ∧ pc < F.code.length := by
    rw [fitP, if_pos hff, eF] at hfit
    apply Classical.byContradiction
    intro q
    rw [if_neg (show ¬ (0 ≤ pc ∧ pc < (F.fn.code.length : Int)) from q)] at hfit
    cases hfit
  have hfl : Hid (FlowF F.fn) := flow_of hok F.fn (List.mem_map.mpr ⟨F, hFm, rfl⟩)
  have hFiH : Hid (M.fns[f.toNat]? = some F) := hFi
  have hft : Hid (∀ k : Nat, k < F.code.length → fitP M.pr f k = 0) := fun k hk => by rw [fitP, if_pos hff, eF, if_pos (show 0 ≤ (k : Int) ∧ (k : Int) < (F.fn.code.length : Int) from ⟨by omega, by have : F.fn.code.length = F.code.length := rfl; omega⟩)]
  obtain ⟨pn, hpn⟩ : ∃ pn : Nat, (pn : Int) = pc := ⟨pc.toNat, by omega⟩
  subst hpn
  have hpl : pn < F.code.length := by omega
  have hf0 : Hid (0 ≤ f) := f0
  have xR := freach_ok M f pn _ (hM.later hb) (hF.later hb) F hFi hfl.out f0 hpl hfit
  have cI : ∀ V, Below w.heap.size w V → Calls Tryd.prog 11 #[M.val, .int .i64 f, .int .i64 (pn : Int)] V fun e' w' => e' = .returned (.int .i64 0) ∧ Below V.heap.size V w' := fun V hV => rfit_any M f pn V (hMH.out.later hV) 0 he
  have cN : Hid (∀ V, Below w.heap.size w V → ∀ k : Nat, k < F.code.length → Calls Tryd.prog 8 #[M.val, .int .i64 f, .int .i64 (k : Int)] V _) := fun V hV k hk => fnext_ok M f k V (hMH.out.later hV) (hPH.out.later hV) F hFiH.out hfl.out hf0.out hk (hft.out k hk)
  have cR : Hid (∀ V, Below w.heap.size w V → ∀ k : Nat, k < F.code.length → Calls Tryd.prog 9 #[M.val, .int .i64 f, .int .i64 (k : Int)] V _) := fun V hV k hk => freach_ok M f k V (hMH.out.later hV) (hPH.out.later hV) F hFiH.out hfl.out hf0.out hk (hft.out k hk)
  have hplH : Hid (pn < F.code.length) := hpl
  have hl64 : F.code.length ≤ 64 := hfl.out.l64
  clear hM hF hb he hfit hff hFi hFm eF hok f0 f1 hpp hpl
  go_enter Tryd.func6, Tryd.ntmps6
  go_upto_region 2 with (go_at_call 9; (refine xR.mono ?_); rintro e' w2 ⟨R, la, lc, rfl, hR, hr2, hb2⟩)
  obtain ⟨L, hL⟩ : ∃ L, Hid (lst R 64 = L) := ⟨_, rfl⟩
  rw [hL.out] at hr2
  simp only [hL.out]
  have hs2 : Hid (GS w w2 M L la lc) := ⟨bthen hbH.out hb2, bPH.out.later hb2, hr2⟩
  have hRH : Hid (Least F.fn alw (onePl pn) R) := hR
  have hin : Hid (∀ x, x ∈ L ↔ ∃ k : Nat, k < 64 ∧ R k = true ∧ x = (k : Int)) := fun x => by rw [← hL.out]; exact lst_mem R x 64
  have xI := cI w2 hs2.out.b
  obtain ⟨p0, p1, p2, p3⟩ := hs2.out.p
  have hLl : (L.length : Int) ≤ 64 := by rw [← hL.out]; have := lst_len R 64; omega
  have hpin : Hid ((pn : Int) ∈ L) := (hin.out _).mpr ⟨pn, by have := hplH.out; omega, least_own hRH.out, rfl⟩
  clear xR hb2 hr2 hR bP cI hL
  go_upto_region 4 with (go_at_call 11; (refine xI.mono ?_); rintro e' w3 ⟨rfl, hb3⟩; clear p0 p1 p2 p3)
  have hs3 : Hid (GS w w3 M L la lc) := hs2.out.later hb3
  have xH := has_any L la lc (pn : Int) w3 hs3.out.r hpin.out
  clear xI hb3 hs2
  go_upto_region 6 with (go_at_call 31; (refine xH.mono ?_); rintro e' w4 ⟨rfl, hb4⟩)
  have hs4 : Hid (GS w w4 M L la lc) := hs3.out.later hb4
  clear xH hb4 hs3
  go_wp2_with fail
  go_loopw [9] (fun u wr => ∃ i : Nat, i ≤ L.length ∧ u = .int .i64 (i : Int) ∧ Hid (GS w wr M L la lc)) (fun u _ => L.length - (intOf u).toNat)
  case atStart => exact ⟨0, Nat.zero_le _, rfl, hs4⟩
  case round =>
    clear hs4
    obtain ⟨i, hi, rfl, hs⟩ := hrel
    by_cases hlt : i < L.length
    · obtain ⟨x, hx, hxm⟩ := get_lt L i hlt
      obtain ⟨k, hk64, hRk, hxk⟩ := (hin.out x).mp hxm
      subst hxk
      have hkl := least_lt hfl.out (show pn < F.fn.code.length from hplH.out) hRH.out k hRk
      have hRkH : Hid (R k = true) := hRk
      have hiI : (i : Int) < L.length := by omega
      obtain ⟨lb, lo, hix, hlb, lcel⟩ := ch_ix hs.out.r i (k : Int) hx
      go_upto_region 9 with fail
      have hH : Below wr.heap.size wr wr.drew := bey_drew _
      have hPc := hs.out.p
      have hrP : ∀ w', Below wr.heap.size wr w' → w'.rangeAt w.heap.size 0 ([.slice M.va M.vars.length M.vcap, .int .i64 M.locks, .slice M.cha M.chans.length M.chcap, .slice M.fa M.fns.length M.fcap] : List Value) := fun w' h' j v hj => by
        match j, hj with
        | 0, hj => cases hj; exact cell_later h' hPc.1
        | 1, hj => cases hj; exact cell_later h' hPc.2.1
        | 2, hj => cases hj; exact cell_later h' hPc.2.2.1
        | 3, hj => cases hj; exact cell_later h' hPc.2.2.2
      refine wp_region_held_drew (S := fun w' => Below wr.heap.size wr w') (by kernel_rfl) hH (fun _ => ?_)
      refine reg_load (i := 0) rfl (by kernel_rfl) (by kernel_rfl) (by kernel_rfl) (fun _ _ _ _ h => h) rfl 26 _ rfl w.heap.size 0 rfl [.slice M.va M.vars.length M.vcap, .int .i64 M.locks, .slice M.cha M.chans.length M.chcap, .slice M.fa M.fns.length M.fcap] _ hrP Tryd.underlying26 rfl (by kernel_rfl) hH ?_
      simp only [Act.put, List.getElem_toArray, List.getElem_cons_succ, List.getElem_cons_zero, List.setIfInBounds_toArray, List.set_cons_zero, List.set_cons_succ]
      refine reg_move (i := 1) rfl (by kernel_rfl) (by kernel_rfl) (by kernel_rfl) (fun _ _ _ _ h => h) rfl (.int .i64 f) (fun _ => by kernel_rfl) hH ?_
      simp only [Act.put, List.getElem_toArray, List.getElem_cons_succ, List.getElem_cons_zero, List.setIfInBounds_toArray, List.set_cons_zero, List.set_cons_succ]
      refine reg_move (i := 2) rfl (by kernel_rfl) (by kernel_rfl) (by kernel_rfl) (fun _ _ _ _ h => h) rfl (.slice la L.length lc) (fun _ => by kernel_rfl) hH ?_
      simp only [Act.put, List.getElem_toArray, List.getElem_cons_succ, List.getElem_cons_zero, List.setIfInBounds_toArray, List.set_cons_zero, List.set_cons_succ]
      refine reg_move (i := 3) rfl (by kernel_rfl) (by kernel_rfl) (by kernel_rfl) (fun _ _ _ _ h => h) rfl (.int .i64 (i : Int)) (fun _ => by kernel_rfl) hH ?_
      simp only [Act.put, List.getElem_toArray, List.getElem_cons_succ, List.getElem_cons_zero, List.setIfInBounds_toArray, List.set_cons_zero, List.set_cons_succ]
      refine reg_move (i := 4) rfl (by kernel_rfl) (by kernel_rfl) (by kernel_rfl) (fun _ _ _ _ h => h) rfl (.pointer (some ⟨lb, lo, none⟩)) (fun wx => by unfold execOp; exact run_valueF (hix wx)) hH ?_
      simp only [Act.put, List.getElem_toArray, List.getElem_cons_succ, List.getElem_cons_zero, List.setIfInBounds_toArray, List.set_cons_zero, List.set_cons_succ]
      refine reg_load1 (i := 5) rfl (by kernel_rfl) (by kernel_rfl) (by kernel_rfl) (fun _ _ _ _ h => h) rfl 3 _ rfl ⟨lb, lo, none⟩ rfl _ Tryd.underlying3 rfl (.int .i64 (k : Int)) (fun w' h' => cell_later h' lcel) hH ?_
      simp only [Act.put, List.getElem_toArray, List.getElem_cons_succ, List.getElem_cons_zero, List.setIfInBounds_toArray, List.set_cons_zero, List.set_cons_succ]
      refine reg_call3F (i := 6) (by kernel_rfl) rfl rfl 8 _ _ _ _ _ _ rfl M.val (.int .i64 f) (.int .i64 (k : Int)) rfl rfl rfl (cf_fn Tryd.func8 (by kernel_rfl) (by kernel_rfl) _ _) _ (cN.out wr.drew (hs.out.later (bey_drew _)).b k hkl) ?_
      rintro e5 w5 ⟨na, nc, rfl, hn, hb5⟩
      obtain ⟨N, hN⟩ : ∃ N, Hid (lst (bAll F.fn (onePl k) F.code.length) 64 = N) := ⟨_, rfl⟩
      rw [hN.out] at hn
      simp only [hN.out]
      have hH5 : Below wr.heap.size wr w5 := bthen hH hb5
      refine ⟨_, rfl, hH5, fun _ => ?_⟩
      simp only [Act.put, List.getElem_toArray, List.getElem_cons_succ, List.getElem_cons_zero, List.setIfInBounds_toArray, List.set_cons_zero, List.set_cons_succ]
      refine reg_move (i := 7) rfl (by kernel_rfl) (by kernel_rfl) (by kernel_rfl) (fun _ _ _ _ h => h) rfl (.tuple #[.slice na N.length nc, .int .i64 0]) (fun _ => rfl) hH5 ?_
      simp only [Act.put, List.getElem_toArray, List.getElem_cons_succ, List.getElem_cons_zero, List.setIfInBounds_toArray, List.set_cons_zero, List.set_cons_succ]
      refine reg_move (i := 8) rfl (by kernel_rfl) (by kernel_rfl) (by kernel_rfl) (fun _ _ _ _ h => h) rfl (.slice na N.length nc) (fun _ => by kernel_rfl) hH5 ?_
      simp only [Act.put, List.getElem_toArray, List.getElem_cons_succ, List.getElem_cons_zero, List.setIfInBounds_toArray, List.set_cons_zero, List.set_cons_succ]
      refine reg_move (i := 9) rfl (by kernel_rfl) (by kernel_rfl) (by kernel_rfl) (fun _ _ _ _ h => h) rfl (.int .i64 0) (fun _ => by kernel_rfl) hH5 ?_
      simp only [Act.put, List.getElem_toArray, List.getElem_cons_succ, List.getElem_cons_zero, List.setIfInBounds_toArray, List.set_cons_zero, List.set_cons_succ]
      refine reg_move (i := 10) rfl (by kernel_rfl) (by kernel_rfl) (by kernel_rfl) (fun _ _ _ _ h => h) rfl (.slice na N.length nc) (fun _ => rfl) hH5 ?_
      simp only [Act.put, List.getElem_toArray, List.getElem_cons_succ, List.getElem_cons_zero, List.setIfInBounds_toArray, List.set_cons_zero, List.set_cons_succ]
      refine reg_move (i := 11) rfl (by kernel_rfl) (by kernel_rfl) (by kernel_rfl) (fun _ _ _ _ h => h) rfl (.int .i64 0) (fun _ => rfl) hH5 ?_
      simp only [Act.put, List.getElem_toArray, List.getElem_cons_succ, List.getElem_cons_zero, List.setIfInBounds_toArray, List.set_cons_zero, List.set_cons_succ]
      refine wpAnyH_done (by kernel_rfl) ?_ _
      have hs5 : Hid (GS w w5 M L la lc) := (hs.out.later (bey_drew _)).later hb5
      have hn5 : Hid (Rows w5 1 na nc (N.map chCells)) := hn
      clear hrP hH hH5 hb5 hn
      go_wp2_with fail
      obtain ⟨lb2, lo2, hix2, hlb2, lcel2⟩ := ch_ix hs5.out.r i (k : Int) hx
      have hH : Below w5.heap.size w5 w5.drew := bey_drew _
      have hPc := hs5.out.p
      have hrP : ∀ w', Below w5.heap.size w5 w' → w'.rangeAt w.heap.size 0 ([.slice M.va M.vars.length M.vcap, .int .i64 M.locks, .slice M.cha M.chans.length M.chcap, .slice M.fa M.fns.length M.fcap] : List Value) := fun w' h' j v hj => by
        match j, hj with
        | 0, hj => cases hj; exact cell_later h' hPc.1
        | 1, hj => cases hj; exact cell_later h' hPc.2.1
        | 2, hj => cases hj; exact cell_later h' hPc.2.2.1
        | 3, hj => cases hj; exact cell_later h' hPc.2.2.2
      refine wp_region_held_drew (S := fun w' => Below w5.heap.size w5 w') (by kernel_rfl) hH (fun _ => ?_)
      refine reg_load (i := 0) rfl (by kernel_rfl) (by kernel_rfl) (by kernel_rfl) (fun _ _ _ _ h => h) rfl 26 _ rfl w.heap.size 0 rfl [.slice M.va M.vars.length M.vcap, .int .i64 M.locks, .slice M.cha M.chans.length M.chcap, .slice M.fa M.fns.length M.fcap] _ hrP Tryd.underlying26 rfl (by kernel_rfl) hH ?_
      simp only [Act.put, List.getElem_toArray, List.getElem_cons_succ, List.getElem_cons_zero, List.setIfInBounds_toArray, List.set_cons_zero, List.set_cons_succ]
      refine reg_move (i := 1) rfl (by kernel_rfl) (by kernel_rfl) (by kernel_rfl) (fun _ _ _ _ h => h) rfl (.int .i64 f) (fun _ => by kernel_rfl) hH ?_
      simp only [Act.put, List.getElem_toArray, List.getElem_cons_succ, List.getElem_cons_zero, List.setIfInBounds_toArray, List.set_cons_zero, List.set_cons_succ]
      refine reg_move (i := 2) rfl (by kernel_rfl) (by kernel_rfl) (by kernel_rfl) (fun _ _ _ _ h => h) rfl (.slice la L.length lc) (fun _ => by kernel_rfl) hH ?_
      simp only [Act.put, List.getElem_toArray, List.getElem_cons_succ, List.getElem_cons_zero, List.setIfInBounds_toArray, List.set_cons_zero, List.set_cons_succ]
      refine reg_move (i := 3) rfl (by kernel_rfl) (by kernel_rfl) (by kernel_rfl) (fun _ _ _ _ h => h) rfl (.int .i64 (i : Int)) (fun _ => by kernel_rfl) hH ?_
      simp only [Act.put, List.getElem_toArray, List.getElem_cons_succ, List.getElem_cons_zero, List.setIfInBounds_toArray, List.set_cons_zero, List.set_cons_succ]
      refine reg_move (i := 4) rfl (by kernel_rfl) (by kernel_rfl) (by kernel_rfl) (fun _ _ _ _ h => h) rfl (.pointer (some ⟨lb2, lo2, none⟩)) (fun wx => by unfold execOp; exact run_valueF (hix2 wx)) hH ?_
      simp only [Act.put, List.getElem_toArray, List.getElem_cons_succ, List.getElem_cons_zero, List.setIfInBounds_toArray, List.set_cons_zero, List.set_cons_succ]
      refine reg_load1 (i := 5) rfl (by kernel_rfl) (by kernel_rfl) (by kernel_rfl) (fun _ _ _ _ h => h) rfl 3 _ rfl ⟨lb2, lo2, none⟩ rfl _ Tryd.underlying3 rfl (.int .i64 (k : Int)) (fun w' h' => cell_later h' lcel2) hH ?_
      simp only [Act.put, List.getElem_toArray, List.getElem_cons_succ, List.getElem_cons_zero, List.setIfInBounds_toArray, List.set_cons_zero, List.set_cons_succ]
      refine reg_call3F (i := 6) (by kernel_rfl) rfl rfl 9 _ _ _ _ _ _ rfl M.val (.int .i64 f) (.int .i64 (k : Int)) rfl rfl rfl (cf_fn Tryd.func9 (by kernel_rfl) (by kernel_rfl) _ _) _ (cR.out w5.drew (hs5.out.later (bey_drew _)).b k hkl) ?_
      rintro e6 w6 ⟨R2, ma, mc, rfl, hR2, hm, hb6⟩
      obtain ⟨Q, hQ⟩ : ∃ Q, Hid (lst R2 64 = Q) := ⟨_, rfl⟩
      rw [hQ.out] at hm
      simp only [hQ.out]
      have hH6 : Below w5.heap.size w5 w6 := bthen hH hb6
      refine ⟨_, rfl, hH6, fun _ => ?_⟩
      simp only [Act.put, List.getElem_toArray, List.getElem_cons_succ, List.getElem_cons_zero, List.setIfInBounds_toArray, List.set_cons_zero, List.set_cons_succ]
      refine reg_move (i := 7) rfl (by kernel_rfl) (by kernel_rfl) (by kernel_rfl) (fun _ _ _ _ h => h) rfl (.tuple #[.slice ma Q.length mc, .int .i64 0]) (fun _ => rfl) hH6 ?_
      simp only [Act.put, List.getElem_toArray, List.getElem_cons_succ, List.getElem_cons_zero, List.setIfInBounds_toArray, List.set_cons_zero, List.set_cons_succ]
      refine reg_move (i := 8) rfl (by kernel_rfl) (by kernel_rfl) (by kernel_rfl) (fun _ _ _ _ h => h) rfl (.slice ma Q.length mc) (fun _ => by kernel_rfl) hH6 ?_
      simp only [Act.put, List.getElem_toArray, List.getElem_cons_succ, List.getElem_cons_zero, List.setIfInBounds_toArray, List.set_cons_zero, List.set_cons_succ]
      refine reg_move (i := 9) rfl (by kernel_rfl) (by kernel_rfl) (by kernel_rfl) (fun _ _ _ _ h => h) rfl (.int .i64 0) (fun _ => by kernel_rfl) hH6 ?_
      simp only [Act.put, List.getElem_toArray, List.getElem_cons_succ, List.getElem_cons_zero, List.setIfInBounds_toArray, List.set_cons_zero, List.set_cons_succ]
      refine reg_move (i := 10) rfl (by kernel_rfl) (by kernel_rfl) (by kernel_rfl) (fun _ _ _ _ h => h) rfl (.slice ma Q.length mc) (fun _ => rfl) hH6 ?_
      simp only [Act.put, List.getElem_toArray, List.getElem_cons_succ, List.getElem_cons_zero, List.setIfInBounds_toArray, List.set_cons_zero, List.set_cons_succ]
      refine reg_move (i := 11) rfl (by kernel_rfl) (by kernel_rfl) (by kernel_rfl) (fun _ _ _ _ h => h) rfl (.int .i64 0) (fun _ => rfl) hH6 ?_
      simp only [Act.put, List.getElem_toArray, List.getElem_cons_succ, List.getElem_cons_zero, List.setIfInBounds_toArray, List.set_cons_zero, List.set_cons_succ]
      refine wpAnyH_done (by kernel_rfl) ?_ _
      have hs6 : Hid (GS w w6 M L la lc) := (hs5.out.later (bey_drew _)).later hb6
      have hn6 : Hid (Rows w6 1 na nc (N.map chCells)) := (hn5.out.later (bey_drew _)).later hb6
      have hm6 : Hid (Rows w6 1 ma mc (Q.map chCells)) := hm
      have hNin : Hid (∀ x ∈ N, x ∈ L ∧ x ∈ Q) := fun x hx => by
        have h1 := next_in (hN.out.symm ▸ hx)
        have h2 := hfl.out.n k hkl x h1
        have h3 := hRH.out.cl k hkl hRkH.out rfl x h1
        have h4 := hR2.cl k hkl (least_own hR2) rfl x h1
        refine ⟨(hin.out x).mpr ⟨x.toNat, by have := hfl.out.l64; omega, h3, by omega⟩, ?_⟩
        rw [← hQ.out]
        exact lst_put h2.1 (by have := hfl.out.l64; omega) h4
      have hQin : Hid (∀ x ∈ Q, x ∈ L) := fun x hx => by
        rw [← hQ.out] at hx
        obtain ⟨j, h1, h2, h3⟩ := (lst_mem _ _ _).mp hx
        exact (hin.out x).mpr ⟨j, h1, least_in hRH.out hR2 hRkH.out j h2, h3⟩
      have hNl : (N.length : Int) ≤ 64 := by rw [← hN.out]; have := lst_len (bAll F.fn (onePl k) F.code.length) 64; omega
      have hQl : (Q.length : Int) ≤ 64 := by rw [← hQ.out]; have := lst_len R2 64; omega
      clear hH hH6 hb6 hm hR2 hrP hix hix2 lcel lcel2 hx hxm hkl hRk hN hQ hs5 hn5 hs
      go_wp2_with fail
      clear hlb hlb2
      go_loopw [14] (fun u wq => ∃ j : Nat, j ≤ N.length ∧ u = .int .i64 (j : Int) ∧ Hid (GS w wq M L la lc ∧ Rows wq 1 na nc (N.map chCells) ∧ Rows wq 1 ma mc (Q.map chCells))) (fun u _ => N.length - (intOf u).toNat)
      case atStart => exact ⟨0, Nat.zero_le _, rfl, hs6.out, hn6.out, hm6.out⟩
      case round =>
        clear hs6 hn6 hm6
        obtain ⟨j, hj, rfl, hs⟩ := hrel
        by_cases hjl : j < N.length
        · obtain ⟨y, hy, hym⟩ := get_lt N j hjl
          obtain ⟨b1, o1, hix1, hbl1, c1⟩ := ch_ix hs.out.2.1 j y hy
          have hjI : (j : Int) < N.length := by omega
          have xA := has_any L la lc y wr hs.out.1.r (hNin.out y hym).1
          have cB : ∀ V, Below wr.heap.size wr V → Calls Tryd.prog 31 #[.slice ma Q.length mc, .int .i64 y] V fun e' w' => e' = .returned (.bool true) ∧ Below V.heap.size V w' := fun V hV => has_any Q ma mc y V (hs.out.2.2.later hV) (hNin.out y hym).2
          have c1H : Hid (wr.cell? ⟨b1, o1, none⟩ = some (.int .i64 y)) := c1
          clear hy hym hbl1
          go_wp2_with (first
            | (go_at_call 31; (refine xA.mono ?_); clear xA; rintro e' w7 ⟨rfl, hb7⟩; (have c2 := cell_later hb7 c1H.out); (have xB := cB w7 hb7))
            | (go_at_call 31; (refine xB.mono ?_); rintro e' w8 ⟨rfl, hb8⟩; (have hs8 : Hid (GS w w8 M L la lc ∧ Rows w8 1 na nc (N.map chCells) ∧ Rows w8 1 ma mc (Q.map chCells)) := ⟨(hs.out.1.later hb7).later hb8, (hs.out.2.1.later hb7).later hb8, (hs.out.2.2.later hb7).later hb8⟩)))
          go_roundw
          case rel => exact ⟨j + 1, by omega, by go_num, hs8⟩
          case measure => simp [intOf]; omega
        · have hje : j = N.length := by omega
          have hjI : ¬ ((j : Int) < N.length) := by omega
          have hsL : Hid (GS w wr M L la lc ∧ Rows wr 1 ma mc (Q.map chCells)) := ⟨hs.out.1, hs.out.2.2⟩
          clear hs hj hjl hje
          go_wp2_with fail
          go_loopw [15] (fun u wq => ∃ j : Nat, j ≤ Q.length ∧ u = .int .i64 (j : Int) ∧ Hid (GS w wq M L la lc ∧ Rows wq 1 ma mc (Q.map chCells))) (fun u _ => Q.length - (intOf u).toNat)
          case atStart => exact ⟨0, Nat.zero_le _, rfl, hsL⟩
          case round =>
            clear hsL hjI
            obtain ⟨j2, hj2, rfl, hs⟩ := hrel
            by_cases hjl : j2 < Q.length
            · obtain ⟨y, hy, hym⟩ := get_lt Q j2 hjl
              obtain ⟨b1, o1, hix1, hbl1, c1⟩ := ch_ix hs.out.2 j2 y hy
              have hjI : (j2 : Int) < Q.length := by omega
              have xA := has_any L la lc y wr hs.out.1.r (hQin.out y hym)
              clear hy hym hbl1
              go_wp2_with (go_at_call 31; (refine xA.mono ?_); clear xA; rintro e' w7 ⟨rfl, hb7⟩; (have hs8 : Hid (GS w w7 M L la lc ∧ Rows w7 1 ma mc (Q.map chCells)) := ⟨hs.out.1.later hb7, hs.out.2.later hb7⟩))
              go_roundw
              case rel => exact ⟨j2 + 1, by omega, by go_num, hs8⟩
              case measure => simp [intOf]; omega
            · have hjI : ¬ ((j2 : Int) < Q.length) := by omega
              have hsE : Hid (GS w wr M L la lc) := hs.out.1
              clear hs hj2 hjl
              go_wp2
              go_roundw
              case rel => exact ⟨i + 1, by omega, by go_num, hsE⟩
              case measure => simp [intOf]; omega
    · have hiI : ¬ ((i : Int) < L.length) := by omega
      have xS := speaksF_any wr (hPH.out.later hs.out.b)
      go_wp2_with (go_at_call 12; (refine xS.mono ?_); rintro e' w9 ⟨rfl, hb9⟩)
      go_ret
      exact ⟨rfl, bthen hs.out.b hb9⟩
end Go.Proofs.YtmgmiaonljcfcaaDoor.pg
