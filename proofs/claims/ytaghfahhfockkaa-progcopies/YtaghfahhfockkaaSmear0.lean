/- What is written over: some blocks, each of which keeps its shape. -/
import Derived.Test.YtaghfahhfockkaaCp6
namespace Go.Proofs.Ytaghfahhfockkaa.pg
open Go.ChangeShapes Go.WideShapes Go.ChangeAt Go.RowKit
set_option linter.unusedVariables false
set_option linter.unusedSimpArgs false
structure Sm (w0 wr : World) (W : List Nat) : Prop where
  be : Below 0 w0 wr
  size : w0.heap.size ≤ wr.heap.size
  keep : ∀ b, b < w0.heap.size → b ∉ W → wr.heap[b]? = w0.heap[b]?
  shape : ∀ b ∈ W, ∀ cs t, w0.heap[b]? = some (.cells cs t (0, 0)) → ∃ cur, wr.heap[b]? = some (.cells cur t (0, 0)) ∧ cur.size = cs.size
theorem Sm.refl (w : World) (W : List Nat) : Sm w w W := ⟨Below.refl _ _, Nat.le_refl _, fun _ _ _ => rfl, fun b _ cs t h => ⟨cs, h, rfl⟩⟩
theorem Sm.lt {w0 wr : World} {W : List Nat} (h : Sm w0 wr W) {b : Nat} (hb : b < w0.heap.size) : b < wr.heap.size := Nat.lt_of_lt_of_le hb h.size
theorem Sm.alloc {w0 wr : World} {W : List Nat} (h : Sm w0 wr W) (hW : ∀ b ∈ W, b < w0.heap.size) (o : Obj) : Sm w0 (wr.alloc o) W := by
  have hk : ∀ b, b < wr.heap.size → (wr.alloc o).heap[b]? = wr.heap[b]? := fun b hb => (boxed wr o).block b hb
  refine ⟨h.be.alloc (Nat.zero_le _) _, Nat.le_trans h.size (by rw [World.size_alloc]; omega), fun b hb hn => (hk b (h.lt hb)).trans (h.keep b hb hn), fun b hb cs t hc => ?_⟩
  obtain ⟨cur, h1, h2⟩ := h.shape b hb cs t hc
  exact ⟨cur, (hk b (h.lt (hW b hb))).trans h1, h2⟩
theorem Sm.drew {w0 wr : World} {W : List Nat} (h : Sm w0 wr W) : Sm w0 wr.drew W := ⟨h.be.drew, h.size, h.keep, h.shape⟩
theorem Sm.set {w0 wr : World} {W : List Nat} (h : Sm w0 wr W) {g : Nat} (hg : g ∈ W) (o : Nat) (v : Value) : Sm w0 (wr.setCell ⟨g, o, none⟩ v) W := by
  refine ⟨h.be.setCell (Nat.zero_le _) _, by rw [World.size_setCell]; exact h.size, fun b hb hn => (heap_setCell_other _ _ _ _ (fun q => hn (by rw [show b = g from q]; exact hg))).trans (h.keep b hb hn), fun b hb cs t hc => ?_⟩
  obtain ⟨cur, h1, h2⟩ := h.shape b hb cs t hc
  by_cases hbg : b = g
  · subst hbg
    exact ⟨_, heap_setCell_same wr b o cur t v h1, by simpa using h2⟩
  · exact ⟨cur, (heap_setCell_other _ _ _ _ hbg).trans h1, h2⟩
theorem Sm.more {w0 wr : World} {W W' : List Nat} (h : Sm w0 wr W) (hs : ∀ b ∈ W, b ∈ W') : Sm w0 wr W' := by
  refine ⟨h.be, h.size, fun b hb hn => h.keep b hb (fun q => hn (hs b q)), fun b hb cs t hc => ?_⟩
  by_cases hw : b ∈ W
  · exact h.shape b hw cs t hc
  · exact ⟨cs, (h.keep b (Array.getElem?_eq_some_iff.mp hc).1 hw).trans hc, rfl⟩
/-- What stays below. -/
theorem Sm.below {w0 wr : World} {W : List Nat} (h : Sm w0 wr W) {n : Nat} (hn : n ≤ w0.heap.size) (hW : ∀ b ∈ W, n ≤ b) : Below n w0 wr :=
  ⟨h.be.os, h.be.tape, h.be.output, h.be.size, fun b hb => h.keep b (by omega) (fun q => by have := hW b q; omega)⟩
/-- A list of the call's own: its block, and the block's type. -/
theorem own_tag {w : World} {lo e k : Nat} {a : Option Addr} {cap : Nat} {L : List (List Value)} (h : OwnL w lo e k a cap L) {g : Nat} (hg : g ∈ blk a) : ∃ cur, w.heap[g]? = some (.cells cur e (0, 0)) ∧ cur.size = cap * k ∧ L.length ≤ cap ∧ a = some ⟨g, 0, none⟩ := by
  rcases h.2 with ⟨q, _⟩ | ⟨g', cap', cur, q, hb, hg', h1, h2, h3, h4⟩
  · simp only [Value.slice.injEq] at q; rw [q.1] at hg; simp [blk] at hg
  · simp only [Value.slice.injEq] at q
    obtain ⟨q1, _, q3⟩ := q
    rw [q1] at hg
    simp only [blk, List.mem_singleton] at hg
    subst hg
    subst q3
    exact ⟨cur, hg', h3, h1, q1⟩
theorem own_apart {w : World} {lo lo' e e' k k' : Nat} {a a' : Option Addr} {cap cap' : Nat} {L L' : List (List Value)} (h : OwnL w lo e k a cap L) (h' : OwnL w lo' e' k' a' cap' L') (hne : e ≠ e') {g : Nat} (hg : g ∈ blk a) : g ∉ blk a' := fun hg' => by
  obtain ⟨c, h1, _⟩ := own_tag h hg
  obtain ⟨c', h2, _⟩ := own_tag h' hg'
  rw [h1] at h2
  simp at h2
  exact hne h2.2
/-- A row of such a list may be written. -/
theorem row_free {w0 wr : World} {W : List Nat} (sm : Sm w0 wr W) {lo e k : Nat} {a : Option Addr} {cap : Nat} {L : List (List Value)} (h : OwnL w0 lo e k a cap L) (hW : ∀ g ∈ blk a, g ∈ W) (i : Nat) (hi : i < L.length) :
    ∃ g, a = some ⟨g, 0, none⟩ ∧ g ∈ W ∧ g < wr.heap.size ∧ (∀ j, j < k → ∃ u, wr.cell? ⟨g, i * k + j, none⟩ = some u) ∧ ∀ x, wr.frozen? ⟨g, x, none⟩ = false := by
  rcases own_block h with ⟨_, h0, _⟩ | ⟨g, ha, _, hg⟩
  · omega
  · have hm : g ∈ blk a := by rw [ha]; simp [blk]
    obtain ⟨cs, h1, h2, h3, _⟩ := own_tag h hm
    obtain ⟨cur, h4, h5⟩ := sm.shape g (hW g hm) cs e h1
    refine ⟨g, ha, hW g hm, sm.lt hg, fun j hj => ?_, fun x => whole_frozen h4 x⟩
    have hlt : i * k + j < cur.size := by
      rw [h5, h2]
      have : (i + 1) * k ≤ cap * k := Nat.mul_le_mul_right k (by omega)
      rw [Nat.succ_mul] at this
      omega
    exact ⟨cur[i * k + j], whole_cell h4 _ _ (Array.getElem?_eq_getElem hlt)⟩
theorem own_ix {t e k : Nat} (hu : Try.prog.underlying t = some (.slice e)) (he : Try.prog.elem t = e) (hs : ∀ wx, (sizeOf e).run Try.prog wx = .ok k wx) (g n cap i : Nat) (hi : i < n) :
    ∀ wx, (Instr.indexAt t (.slice (some ⟨g, 0, none⟩) n cap) (.int .i64 (i : Int))).run Try.prog wx = .ok (.pointer (some ⟨g, i * k, none⟩)) wx := by
  intro wx
  subst he
  rw [run_indexAt_slice wx t ⟨g, 0, none⟩ _ _ _ _ hu, if_pos (by omega), hs wx]
  simp only [Int.toNat_natCast]
  show Result.ok (Value.pointer (some ((⟨g, 0, none⟩ : Addr).add (i * k)))) wx = _
  rw [add_none, Nat.zero_add]
theorem own_len {w : World} {lo e k : Nat} {a : Option Addr} {cap : Nat} {L : List (List Value)} (h : OwnL w lo e k a cap L) : (L.length : Int) ≤ 9223372036854775807 := by
  rcases h.2 with ⟨q, h0⟩ | ⟨g', cap', cur, q, hb, hg', h1, h2, h3, h4⟩
  · omega
  · unfold maxLen at h2; omega
theorem st_same {w : World} {b j : Nat} {u v : Value} (h : w.cell? ⟨b, j, none⟩ = some u) : (w.setCell ⟨b, j, none⟩ v).cell? ⟨b, j, none⟩ = some v := World.cell?_setCell_same _ _ _ h
theorem st_other {w : World} {b j k : Nat} {v : Value} {r : Option Value} (hjk : j ≠ k) (h : w.cell? ⟨b, k, none⟩ = r) : (w.setCell ⟨b, j, none⟩ v).cell? ⟨b, k, none⟩ = r := by
  rw [World.cell?_setCell_other _ _ _ _ (by simp [hjk])]; exact h
/-- The blocks that Smear writes. -/
def MFn.wet (f : MFn) : List Nat := blk f.ca ++ f.sels.flatMap fun s => blk s.at_
def MPr.wet (p : MPr) : List Nat := blk p.va ++ (blk p.cha ++ p.fns.flatMap MFn.wet)
theorem wet_fn {p : MPr} {f : MFn} (hf : f ∈ p.fns) {g : Nat} (hg : g ∈ f.wet) : g ∈ p.wet := by
  unfold MPr.wet; simp only [List.mem_append, List.mem_flatMap]; exact .inr (.inr ⟨f, hf, hg⟩)
theorem wet_code {f : MFn} {g : Nat} (hg : g ∈ blk f.ca) : g ∈ f.wet := by unfold MFn.wet; simp [hg]
theorem wet_case {f : MFn} {s : MSel} (hs : s ∈ f.sels) {g : Nat} (hg : g ∈ blk s.at_) : g ∈ f.wet := by
  unfold MFn.wet; simp only [List.mem_append, List.mem_flatMap]; exact .inr ⟨s, hs, hg⟩
/-- A property of all blocks that are written. -/
theorem wet_all {w : World} {lo : Nat} {p : MPr} (h : p.own w lo) {g : Nat} (hg : g ∈ p.wet) : ∃ (e k : Nat) (a : Option Addr) (cap : Nat) (L : List (List Value)), OwnL w lo e k a cap L ∧ g ∈ blk a ∧ (e = 31 ∨ e = 3 ∨ e = 47 ∨ e = 51) := by
  unfold MPr.wet at hg
  simp only [List.mem_append, List.mem_flatMap] at hg
  rcases hg with hg | hg | ⟨f, hf, hg⟩
  · exact ⟨_, _, _, _, _, h.1, hg, .inl rfl⟩
  · exact ⟨_, _, _, _, _, h.2.1, hg, .inr (.inl rfl)⟩
  · have ho := h.2.2.2 f hf
    unfold MFn.wet at hg
    simp only [List.mem_append, List.mem_flatMap] at hg
    rcases hg with hg | ⟨s, hs, hg⟩
    · exact ⟨_, _, _, _, _, ho.1, hg, .inr (.inr (.inl rfl))⟩
    · exact ⟨_, _, _, _, _, ho.2.2 s hs, hg, .inr (.inr (.inr rfl))⟩
theorem wet_bound {w : World} {lo : Nat} {p : MPr} (h : p.own w lo) : ∀ g ∈ p.wet, lo ≤ g ∧ g < w.heap.size := fun g hg => by
  obtain ⟨e, k, a, cap, L, ho, hm, _⟩ := wet_all h hg
  exact blk_lt ho g hm
theorem wet_not {w : World} {lo e k : Nat} {p : MPr} (h : p.own w lo) {a : Option Addr} {cap : Nat} {L : List (List Value)} (ho : OwnL w lo e k a cap L) (he : e ≠ 31 ∧ e ≠ 3 ∧ e ≠ 47 ∧ e ≠ 51) {g : Nat} (hg : g ∈ blk a) : g ∉ p.wet := fun hw => by
  obtain ⟨e', k', a', cap', L', ho', hm, ht⟩ := wet_all h hw
  exact own_apart ho ho' (by rcases ht with q | q | q | q <;> rw [q]; exact he.1; exact he.2.1; exact he.2.2.1; exact he.2.2.2) hg hm
theorem own_lt {w : World} {lo : Nat} {p : MPr} (ho : p.own w lo) : ∀ b ∈ p.blocks, lo ≤ b ∧ b < w.heap.size := fun b hb => by
  unfold MPr.blocks MPr.rest at hb
  simp only [List.mem_append, List.mem_flatMap] at hb
  rcases hb with h | h | h | ⟨f, hf, h⟩
  · exact blk_lt ho.2.2.1 b h
  · exact blk_lt ho.1 b h
  · exact blk_lt ho.2.1 b h
  · have hfo := ho.2.2.2 f hf
    unfold MFn.blocks MFn.rest at h
    simp only [List.mem_append, List.mem_flatMap] at h
    rcases h with h | h | ⟨s, hs, h⟩
    · exact blk_lt hfo.2.1 b h
    · exact blk_lt hfo.1 b h
    · exact blk_lt (hfo.2.2 s hs) b h
theorem Sm.start {w wr : World} {W : List Nat} {o : Obj} (h : Sm (w.alloc o) wr W) (hW : ∀ b ∈ W, b < w.heap.size) : Sm w wr W := by
  have hk : ∀ b, b < w.heap.size → (w.alloc o).heap[b]? = w.heap[b]? := fun b hb => (boxed w o).block b hb
  refine ⟨((boxed w o).mono (Nat.zero_le _)).trans h.be, by have := h.size; rw [World.size_alloc] at this; omega, fun b hb hn => (h.keep b (by rw [World.size_alloc]; omega) hn).trans (hk b hb), fun b hb cs t hc => h.shape b hb cs t ((hk b (hW b hb)).trans hc)⟩
theorem ix_V (g n cap i : Nat) (hi : i < n) : ∀ wx, (Instr.indexAt 22 (.slice (some ⟨g, 0, none⟩) n cap) (.int .i64 (i : Int))).run Try.prog wx = .ok (.pointer (some ⟨g, i * 2, none⟩)) wx := own_ix (t := 22) (e := 31) (k := 2) Try.underlying22 (by kernel_rfl) (fun wx => Try.sizeOf31 wx) g n cap i hi
theorem ix_N (g n cap i : Nat) (hi : i < n) : ∀ wx, (Instr.indexAt 23 (.slice (some ⟨g, 0, none⟩) n cap) (.int .i64 (i : Int))).run Try.prog wx = .ok (.pointer (some ⟨g, i * 1, none⟩)) wx := own_ix (t := 23) (e := 3) (k := 1) Try.underlying23 (by kernel_rfl) (fun wx => Try.sizeOf3 wx) g n cap i hi
theorem ix_F (g n cap i : Nat) (hi : i < n) : ∀ wx, (Instr.indexAt 24 (.slice (some ⟨g, 0, none⟩) n cap) (.int .i64 (i : Int))).run Try.prog wx = .ok (.pointer (some ⟨g, i * 4, none⟩)) wx := own_ix (t := 24) (e := 35) (k := 4) Try.underlying24 (by kernel_rfl) (fun wx => Try.sizeOf35 wx) g n cap i hi
theorem ix_I (g n cap i : Nat) (hi : i < n) : ∀ wx, (Instr.indexAt 32 (.slice (some ⟨g, 0, none⟩) n cap) (.int .i64 (i : Int))).run Try.prog wx = .ok (.pointer (some ⟨g, i * 5, none⟩)) wx := own_ix (t := 32) (e := 47) (k := 5) Try.underlying32 (by kernel_rfl) (fun wx => Try.sizeOf47 wx) g n cap i hi
theorem ix_S (g n cap i : Nat) (hi : i < n) : ∀ wx, (Instr.indexAt 33 (.slice (some ⟨g, 0, none⟩) n cap) (.int .i64 (i : Int))).run Try.prog wx = .ok (.pointer (some ⟨g, i * 2, none⟩)) wx := own_ix (t := 33) (e := 39) (k := 2) Try.underlying33 (by kernel_rfl) (fun wx => Try.sizeOf39 wx) g n cap i hi
theorem ix_C (g n cap i : Nat) (hi : i < n) : ∀ wx, (Instr.indexAt 37 (.slice (some ⟨g, 0, none⟩) n cap) (.int .i64 (i : Int))).run Try.prog wx = .ok (.pointer (some ⟨g, i * 4, none⟩)) wx := own_ix (t := 37) (e := 51) (k := 4) Try.underlying37 (by kernel_rfl) (fun wx => Try.sizeOf51 wx) g n cap i hi
end Go.Proofs.Ytaghfahhfockkaa.pg
