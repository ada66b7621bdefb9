/- An instruction of a program of the call's own is overwritten: what lies there then. -/
import Derived.Test.YtpcobaoiglhkkaaDoorCp6
import Derived.Test.YtpcobaoiglhkkaaDoorSpoil0
namespace Go.Proofs.YtpcobaoiglhkkaaDoor.pg
open Go.ChangeShapes Go.WideShapes Go.ChangeAt Go.RowKit
set_option linter.unusedVariables false
def MFn.put (f : MFn) (pc : Nat) (i : Ins) : MFn := { f with code := f.code.set pc i }
def MPr.put (N : MPr) (n pc : Nat) (F : MFn) (i : Ins) : MPr := { N with fns := N.fns.set n (F.put pc i) }
theorem put_cells (F : MFn) (pc : Nat) (i : Ins) : (F.put pc i).cells = F.cells := by simp [MFn.put, MFn.cells]
theorem put_pr (N : MPr) (n pc : Nat) (F : MFn) (i : Ins) : (N.put n pc F i).pr = N.pr.put n pc F.fn i := by
  simp [MPr.put, MPr.pr, Pr.put, Fn.put, MFn.put, MFn.fn, List.map_set]
theorem list_set_same {α : Type} (l : List α) (n : Nat) (x : α) (h : l[n]? = some x) : l.set n x = l := by
  apply List.ext_getElem?
  intro i
  by_cases hi : i = n
  · subst hi
    rw [List.getElem?_set_self (List.getElem?_eq_some_iff.mp h).1, h]
  · rw [List.getElem?_set_ne (fun q => hi q.symm)]
theorem put_rows {N : MPr} {n pc : Nat} {F : MFn} {i : Ins} (hF : N.fns[n]? = some F) : (N.put n pc F i).fns.map MFn.cells = N.fns.map MFn.cells := by
  show (N.fns.set n (F.put pc i)).map MFn.cells = _
  rw [List.map_set, put_cells]
  exact list_set_same _ _ _ (by simp [hF])
theorem put_val {N : MPr} {n pc : Nat} {F : MFn} {i : Ins} : (N.put n pc F i).val = N.val := by simp [MPr.put]
theorem nodup_fm {α : Type} (f : α → List Nat) : ∀ (l : List α), (l.flatMap f).Nodup → ∀ (m n : Nat) (x y : α), l[m]? = some x → l[n]? = some y → m ≠ n → ∀ b, b ∈ f x → b ∉ f y
  | [], _, m, n, x, y, h, _, _, b, _ => by simp at h
  | z :: t, hn, m, n, x, y, hx, hy, hne, b, hb => by
    rw [List.flatMap_cons] at hn
    obtain ⟨_, h2, h3⟩ := nodup_out hn
    have hmem : ∀ (k : Nat) (u : α), t[k]? = some u → ∀ c ∈ f u, c ∈ t.flatMap f := fun k u hu c hc => List.mem_flatMap.mpr ⟨u, List.mem_of_getElem? hu, hc⟩
    cases m with
    | zero =>
      cases n with
      | zero => exact absurd rfl hne
      | succ n =>
        simp at hx hy
        subst hx
        intro q
        exact h3 b (hmem n y hy b q) hb
    | succ m =>
      cases n with
      | zero =>
        simp at hx hy
        subst hy
        exact h3 b (hmem m x hx b hb)
      | succ n =>
        simp at hx hy
        exact nodup_fm f t h2 m n x y hx hy (by omega) b hb
theorem rows_put {w w' : World} {k g pc cap : Nat} {L : List (List Value)} {row : List Value} (h : Rows w k (some ⟨g, 0, none⟩) cap L) (hpc : pc < L.length) (hr : row.length = k) (hsz : w.heap.size ≤ w'.heap.size)
    (hnew : ∀ j u, row[j]? = some u → w'.cell? ⟨g, pc * k + j, none⟩ = some u) (hold : ∀ x, (x < pc * k ∨ pc * k + k ≤ x) → w'.cell? ⟨g, x, none⟩ = w.cell? ⟨g, x, none⟩) : Rows w' k (some ⟨g, 0, none⟩) cap (L.set pc row) := by
  obtain ⟨h1, h2, h3, h4⟩ := h
  refine ⟨by simpa using h1, h2, fun q => by simp at q, .inr ?_⟩
  rcases h4 with h4 | ⟨b, off, he, hlt, hc⟩
  · subst h4; simp at hpc
  · simp only [Option.some.injEq, Addr.mk.injEq] at he
    obtain ⟨rfl, rfl, _⟩ := he
    refine ⟨g, 0, rfl, Nat.lt_of_lt_of_le hlt hsz, fun i r hi => ?_⟩
    by_cases hip : i = pc
    · subst hip
      rw [List.getElem?_set_self hpc] at hi
      cases hi
      refine ⟨hr, fun j u hj => ?_⟩
      have := hnew j u hj
      simpa using this
    · rw [List.getElem?_set_ne (fun q => hip q.symm)] at hi
      obtain ⟨ha, hb⟩ := hc i r hi
      refine ⟨ha, fun j u hj => ?_⟩
      have hjk : j < k := by have := (List.getElem?_eq_some_iff.mp hj).1; omega
      rw [Nat.zero_add, hold (i * k + j) (by
        rcases Nat.lt_or_gt_of_ne hip with q | q
        · left
          have : (i + 1) * k ≤ pc * k := Nat.mul_le_mul_right k q
          rw [Nat.add_mul] at this
          omega
        · right
          have : (pc + 1) * k ≤ i * k := Nat.mul_le_mul_right k q
          rw [Nat.add_mul] at this
          omega)]
      have := hb j u hj
      rwa [Nat.zero_add] at this
theorem put_lies {N : MPr} {w w' : World} {lo n pc g : Nat} {F : MFn} {i : Ins} (ho : N.own w lo) (nd : N.blocks.Nodup) (hl : N.lies w) (hF : N.fns[n]? = some F) (hpc : pc < F.code.length) (hi : i.wf) (ha : F.ca = some ⟨g, 0, none⟩) (hsz : w.heap.size ≤ w'.heap.size)
    (hoth : ∀ b, b ≠ g → w'.heap[b]? = w.heap[b]?) (hnew : ∀ j u, i.cells[j]? = some u → w'.cell? ⟨g, pc * 5 + j, none⟩ = some u)
    (hold : ∀ x, (x < pc * 5 ∨ pc * 5 + 5 ≤ x) → w'.cell? ⟨g, x, none⟩ = w.cell? ⟨g, x, none⟩) : (N.put n pc F i).lies w' := by
  have hFm := List.mem_of_getElem? hF
  have hgF : g ∈ F.blocks := by simp [MFn.blocks, MFn.rest, ha, blk]
  have hgN : g ∈ N.fns.flatMap MFn.blocks := List.mem_flatMap.mpr ⟨F, hFm, hgF⟩
  unfold MPr.blocks MPr.rest at nd
  obtain ⟨_, nd1, e1⟩ := nodup_out nd
  obtain ⟨_, nd2, e2⟩ := nodup_out nd1
  obtain ⟨_, nd3, e3⟩ := nodup_out nd2
  have n1 : g ∉ blk N.fa := e1 g (by simp [hgN])
  have n2 : g ∉ blk N.va := e2 g (by simp [hgN])
  have n3 : g ∉ blk N.cha := e3 g hgN
  have kp : ∀ (a : Option Addr), g ∉ blk a → ∀ b ∈ blk a, w'.heap[b]? = w.heap[b]? := fun a hn b hb => hoth b (fun q => hn (q ▸ hb))
  have hFl := hl.2.2.2.2.2.2 F hFm
  have hFo := ho.2.2.2 F hFm
  have ndF : F.blocks.Nodup := by
    have key : ∀ (l : List MFn), (l.flatMap MFn.blocks).Nodup → ∀ f ∈ l, f.blocks.Nodup := fun l => by
      induction l with
      | nil => simp
      | cons x t ih =>
        intro h f hf
        rw [List.flatMap_cons] at h
        obtain ⟨h1, h2, _⟩ := nodup_out h
        rcases List.mem_cons.mp hf with rfl | hf
        · exact h1
        · exact ih h2 f hf
    exact key _ nd3 F hFm
  unfold MFn.blocks MFn.rest at ndF
  obtain ⟨_, nf1, f1⟩ := nodup_out ndF
  obtain ⟨_, nf2, f2⟩ := nodup_out nf1
  have hgca : g ∈ blk F.ca := by simp [ha, blk]
  have m1 : g ∉ blk F.sa := f1 g (by simp [hgca])
  have m2 : ∀ s ∈ F.sels, g ∉ blk s.at_ := fun s hs q => f2 g (List.mem_flatMap.mpr ⟨s, hs, q⟩) hgca
  refine ⟨own_rows (own_keep ho.1 (kp _ n2)) (len2 _), own_rows (own_keep ho.2.1 (kp _ n3)) (len1 _), ?_, hl.2.2.2.1, hl.2.2.2.2.1, hl.2.2.2.2.2.1, fun f hf => ?_⟩
  · rw [put_rows hF]
    exact own_rows (own_keep ho.2.2.1 (kp _ n1)) (len4f _)
  · obtain ⟨m, hm⟩ := List.mem_iff_getElem?.mp hf
    change (N.fns.set n (F.put pc i))[m]? = some f at hm
    by_cases hmn : m = n
    · subst hmn
      rw [List.getElem?_set_self (List.getElem?_eq_some_iff.mp hF).1] at hm
      cases hm
      refine ⟨?_, own_rows (own_keep hFo.2.1 (kp _ m1)) (len2s _), fun x hx => ?_, fun s hs => ⟨own_rows (own_keep (hFo.2.2 s hs) (kp _ (m2 s hs))) (len4 _), (hFl.2.2.2.1 s hs).2⟩, hFl.2.2.2.2⟩
      · show Rows w' 5 F.ca F.ccap ((F.code.set pc i).map Ins.cells)
        rw [List.map_set, ha]
        refine rows_put (w := w) (by rw [← ha]; exact hFl.1) (by simpa using hpc) rfl hsz hnew hold
      · rcases List.mem_or_eq_of_mem_set hx with h | h
        · exact hFl.2.2.1 x h
        · rw [h]; exact hi
    · rw [List.getElem?_set_ne (fun q => hmn q.symm)] at hm
      have hfm := List.mem_of_getElem? hm
      have hgf : g ∉ f.blocks := nodup_fm MFn.blocks N.fns nd3 n m F f hF hm (fun q => hmn q.symm) g hgF
      exact fn_lies ((ho.2.2.2 f hfm).keep fun b hb => hoth b (fun q => hgf (q ▸ hb))) rfl (hl.2.2.2.2.2.2 f hfm)
end Go.Proofs.YtpcobaoiglhkkaaDoor.pg
