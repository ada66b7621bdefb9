/- Facts for ProgCopies. -/
import Derived.Test.YtaghfahhfockkaaCopy3
import Derived.Test.YtaghfahhfockkaaSmear1
import Derived.Test.YtaghfahhfockkaaRSame2
namespace Go.Proofs.Ytaghfahhfockkaa.pg
open Go.ChangeShapes Go.WideShapes Go.ChangeAt Go.RowKit
set_option linter.unusedVariables false
set_option linter.unusedSimpArgs false
/-- Nothing changed but what lies from p to r, and what is new. -/
structure Kp (p r : Nat) (w0 wr : World) : Prop where
  be : Below p w0 wr
  size : w0.heap.size ≤ wr.heap.size
  keep : ∀ b, b < w0.heap.size → r ≤ b → wr.heap[b]? = w0.heap[b]?
theorem Kp.next {p r : Nat} {w0 wr w' : World} (h : Kp p r w0 wr) (hp : p ≤ w0.heap.size) (hb : Below 0 wr w') (hs : wr.heap.size ≤ w'.heap.size) (hk : ∀ b, b < wr.heap.size → (b < p ∨ r ≤ b) → w'.heap[b]? = wr.heap[b]?) : Kp p r w0 w' :=
  ⟨⟨hb.os.trans h.be.os, hb.tape.trans h.be.tape, hb.output.trans h.be.output, Nat.le_trans h.size hs, fun b hlt => (hk b (by have := h.size; omega) (.inl hlt)).trans (h.be.block b hlt)⟩, Nat.le_trans h.size hs, fun b hlt hr => (hk b (by have := h.size; omega) (.inr hr)).trans (h.keep b hlt hr)⟩
theorem Kp.below {p r : Nat} {w0 wr w' : World} (h : Kp p r w0 wr) (hp : p ≤ w0.heap.size) (hb : Below wr.heap.size wr w') : Kp p r w0 w' :=
  h.next hp (hb.mono (Nat.zero_le _)) hb.size fun b hlt _ => hb.block b hlt
theorem Kp.refl (p r : Nat) (w : World) : Kp p r w w := ⟨Below.refl _ _, Nat.le_refl _, fun _ _ _ => rfl⟩
theorem Kp.sm {p r : Nat} {w0 wr w' : World} {W : List Nat} (h : Kp p r w0 wr) (hp : p ≤ w0.heap.size) (sm : Sm wr w' W) (hW : ∀ b ∈ W, p ≤ b ∧ b < r) : Kp p r w0 w' :=
  h.next hp sm.be sm.size fun b hlt hor => sm.keep b hlt (fun q => by have := hW b q; omega)
theorem Kp.set {p r : Nat} {w0 wr : World} (h : Kp p r w0 wr) (hp : p ≤ w0.heap.size) {g : Nat} (hg : p ≤ g ∧ g < r) (o : Nat) (v : Value) : Kp p r w0 (wr.setCell ⟨g, o, none⟩ v) :=
  h.next hp ((Below.refl 0 wr).setCell (Nat.zero_le _) _) (by rw [World.size_setCell]; exact Nat.le_refl _) fun b _ hor => heap_setCell_other _ _ _ _ (by show b ≠ g; omega)
/-- A list of the call's own that was written over is one still. -/
theorem chunks (k : Nat) : ∀ (n : Nat) (l : List Value), l.length = n * k → ∃ L : List (List Value), L.length = n ∧ L.flatten = l
  | 0, l, h => ⟨[], rfl, by rw [Nat.zero_mul] at h; rw [List.eq_nil_of_length_eq_zero h]; rfl⟩
  | n + 1, l, h => by
    rw [Nat.succ_mul] at h
    obtain ⟨L, h1, h2⟩ := chunks k n (l.drop k) (by rw [List.length_drop]; omega)
    exact ⟨l.take k :: L, by simp [h1], by rw [List.flatten_cons, h2, List.take_append_drop]⟩
theorem own_any {w0 wr : World} {W : List Nat} (sm : Sm w0 wr W) {lo e k : Nat} {a : Option Addr} {cap : Nat} {L : List (List Value)} (h : OwnL w0 lo e k a cap L) (hW : ∀ g ∈ blk a, g ∈ W) : ∃ L', OwnL wr lo e k a cap L' ∧ L'.length = L.length := by
  rcases h.2 with ⟨q, h0⟩ | ⟨g, cap', cur, q, hb, hg, h1, h2, h3, h4⟩
  · simp only [Value.slice.injEq] at q
    obtain ⟨rfl, _, rfl⟩ := q
    exact ⟨[], own_nil _ _ _ _, h0.symm⟩
  · simp only [Value.slice.injEq] at q
    obtain ⟨rfl, _, rfl⟩ := q
    obtain ⟨cur', h5, h6⟩ := sm.shape g (hW g (by simp [blk])) cur e hg
    have hle : L.length * k ≤ cap * k := Nat.mul_le_mul_right k h1
    have hlen : (cur'.toList.take (L.length * k)).length = L.length * k := by
      have hc : cur'.toList.length = cap * k := by rw [Array.length_toList, h6, h3]
      rw [List.length_take, hc]; omega
    obtain ⟨L', h7, h8⟩ := chunks k L.length _ hlen
    refine ⟨L', ⟨by rw [h8, hlen, h7], .inr ⟨g, cap, cur', rfl, hb, h5, by rw [h7]; exact h1, h2, by rw [h6, h3], by rw [h8, h7]⟩⟩, h7⟩
theorem Kp.low {p p' r : Nat} {w0 wr : World} (h : Kp p r w0 wr) (hp : p' ≤ p) : Kp p' r w0 wr := ⟨h.be.mono hp, h.size, h.keep⟩
theorem app_keep {p r Ta : Nat} {V wX w4 : World} {o : Obj} {a : Option Addr} (K : Kp p r V wX) (hp : p ≤ V.heap.size) (hTa : p ≤ Ta ∧ Ta < r) (hA : ∀ b ∈ blk a, p ≤ b ∧ b < r)
    (hk : ∀ b, b < (wX.alloc o).heap.size → b ∉ blk a → w4.heap[b]? = (wX.alloc o).heap[b]?) (hb : Below 0 (wX.alloc o) w4) (f : Nat) (v : Value) :
    Kp p r V (w4.setCell ⟨Ta, f, none⟩ v) ∧ ∀ b, b < wX.heap.size → b ∉ blk a → b ≠ Ta → (w4.setCell ⟨Ta, f, none⟩ v).heap[b]? = wX.heap[b]? := by
  have hs := hb.size
  rw [World.size_alloc] at hs
  have hko : ∀ b, b < wX.heap.size → (wX.alloc o).heap[b]? = wX.heap[b]? := fun b hlt => (boxed wX o).block b hlt
  have h1 : ∀ b, b < wX.heap.size → b ∉ blk a → w4.heap[b]? = wX.heap[b]? := fun b hlt hn => (hk b (by rw [World.size_alloc]; omega) hn).trans (hko b hlt)
  refine ⟨(K.next hp (((boxed wX o).mono (Nat.zero_le _)).trans hb) (by omega) fun b hlt hor => h1 b hlt (fun q => by have := hA b q; omega)).set hp hTa f v, fun b hlt hn hne => (heap_setCell_other _ _ _ _ hne).trans (h1 b hlt hn)⟩
theorem own_lies {M N : MPr} {w0 w : World} {lo : Nat} (hl : M.lies w0) (ev : N.vars = M.vars) (el : N.locks = M.locks) (ec : N.chans = M.chans) (ef : N.fns.map MFn.fn = M.fns.map MFn.fn) (ho : N.own w lo) : N.lies w ∧ N.pr = M.pr := by
  have hcells : ∀ f ∈ N.fns, f.lies w := fun f hf => by
    obtain ⟨j, hj, rfl⟩ := List.getElem_of_mem hf
    have hmj : (M.fns.map MFn.fn)[j]? = some (N.fns[j]).fn := by rw [← ef]; simp [hj]
    obtain ⟨g, hg, he⟩ : ∃ g, M.fns[j]? = some g ∧ g.fn = (N.fns[j]).fn := by
      rw [List.getElem?_map] at hmj
      cases hq : M.fns[j]? with
      | none => rw [hq] at hmj; simp at hmj
      | some g => rw [hq] at hmj; exact ⟨g, rfl, by simpa using hmj⟩
    exact fn_lies (ho.2.2.2 _ (List.getElem_mem hj)) he (hl.2.2.2.2.2.2 g (List.mem_of_getElem? hg))
  refine ⟨⟨own_rows ho.1 (len2 _), own_rows ho.2.1 (len1 _), own_rows ho.2.2.1 (len4f _), by rw [ev]; exact hl.2.2.2.1, by rw [el]; exact hl.2.2.2.2.1, by rw [ec]; exact hl.2.2.2.2.2.1, hcells⟩, ?_⟩
  show (⟨N.vars, N.locks, N.chans, N.fns.map MFn.fn⟩ : Pr) = ⟨M.vars, M.locks, M.chans, M.fns.map MFn.fn⟩
  rw [ev, el, ec, ef]
theorem sz_of {M N : MPr} (hz : M.sz) (ev : N.vars = M.vars) (ec : N.chans = M.chans) (ef : N.fns.map MFn.fn = M.fns.map MFn.fn) : N.sz := by
  refine ⟨by rw [ev]; exact hz.1, by rw [ec]; exact hz.2.1, ?_, fun f hf => ?_⟩
  · have : N.fns.length = M.fns.length := by have := congrArg List.length ef; simpa using this
    rw [this]; exact hz.2.2.1
  · obtain ⟨j, hj, rfl⟩ := List.getElem_of_mem hf
    have hmj : (M.fns.map MFn.fn)[j]? = some (N.fns[j]).fn := by rw [← ef]; simp [hj]
    obtain ⟨g, hg, he⟩ : ∃ g, M.fns[j]? = some g ∧ g.fn = (N.fns[j]).fn := by
      rw [List.getElem?_map] at hmj
      cases hq : M.fns[j]? with
      | none => rw [hq] at hmj; simp at hmj
      | some g => rw [hq] at hmj; exact ⟨g, rfl, by simpa using hmj⟩
    have hgz := hz.2.2.2 g (List.mem_of_getElem? hg)
    generalize N.fns[j] = f at *
    simp only [MFn.fn, Fn.mk.injEq] at he
    obtain ⟨_, _, h3, h4⟩ := he
    refine ⟨by rw [← h3]; exact hgz.1, ?_, fun s hs => ?_⟩
    · have : g.sels.length = f.sels.length := by have := congrArg List.length h4; simpa using this
      rw [← this]; exact hgz.2.1
    · obtain ⟨i, hi, rfl⟩ := List.getElem_of_mem hs
      have hmi : (g.sels.map MSel.sel)[i]? = some (f.sels[i]).sel := by rw [h4]; simp [hi]
      rw [List.getElem?_map] at hmi
      cases hq : g.sels[i]? with
      | none => rw [hq] at hmi; simp at hmi
      | some t =>
        rw [hq] at hmi
        have ht := hgz.2.2 t (List.mem_of_getElem? hq)
        have he2 : t.sel = (f.sels[i]).sel := by simpa using hmi
        simp only [MSel.sel, Sel.mk.injEq] at he2
        unfold MSel.sz at ht ⊢
        rw [← he2.1]; exact ht
end Go.Proofs.Ytaghfahhfockkaa.pg
