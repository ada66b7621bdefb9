/- Lists of the call's own: an element's cell is stored; the states that package prog's Copy goes through. -/
import Derived.Test.YtaghfahhfockkaaClone
import Derived.Test.YtaghfahhfockkaaSmear0
namespace Go.Proofs.Ytaghfahhfockkaa.pg
open Go.ChangeShapes Go.WideShapes Go.ChangeAt Go.RowKit
set_option linter.unusedVariables false
set_option linter.unusedSimpArgs false
theorem own_mono {w : World} {lo lo' e k : Nat} {a : Option Addr} {cap : Nat} {L : List (List Value)} (h : OwnL w lo e k a cap L) (hl : lo' ≤ lo) : OwnL w lo' e k a cap L := by
  refine ⟨h.1, ?_⟩
  rcases h.2 with q | ⟨g, cap', cur, q, hb, r⟩
  · exact .inl q
  · exact .inr ⟨g, cap', cur, q, Nat.le_trans hl hb, r⟩
theorem own_next {w x w' : World} {lo e k : Nat} {a : Option Addr} {cap : Nat} {L : List (List Value)} (h : OwnL w lo e k a cap L) (hx : x.heap = w.heap) (hb : Below x.heap.size x w') : OwnL w' lo e k a cap L :=
  own_keep h fun g hg => by
    have := hb.block g (by rw [hx]; exact (blk_lt h g hg).2)
    rw [this, hx]
theorem flatten_set {k : Nat} : ∀ (L : List (List Value)), (∀ row ∈ L, row.length = k) → ∀ (i : Nat) (row : List Value), L[i]? = some row → ∀ (j : Nat) (v : Value), j < k → (L.set i (row.set j v)).flatten = L.flatten.set (i * k + j) v
  | [], _, i, row, h, _, _, _ => by simp at h
  | r :: t, hk, 0, row, h, j, v, hj => by
    simp at h
    subst h
    have hr := hk r (by simp)
    simp only [List.set_cons_zero, List.flatten_cons, Nat.zero_mul, Nat.zero_add]
    rw [List.set_append_left _ _ (by omega)]
  | r :: t, hk, i + 1, row, h, j, v, hj => by
    simp at h
    have hr := hk r (by simp)
    have ih := flatten_set t (fun q hq => hk q (by simp [hq])) i row h j v hj
    simp only [List.set_cons_succ, List.flatten_cons, ih]
    rw [List.set_append_right _ _ (by rw [hr, Nat.succ_mul]; omega), hr]
    congr 2
    rw [Nat.succ_mul]; omega
theorem own_put {w : World} {lo e k : Nat} {g cap : Nat} {L : List (List Value)} (h : OwnL w lo e k (some ⟨g, 0, none⟩) cap L) (hk : ∀ row ∈ L, row.length = k) (i : Nat) (row : List Value) (hi : L[i]? = some row) (j : Nat) (hj : j < k) (v : Value) :
    OwnL (w.setCell ⟨g, i * k + j, none⟩ v) lo e k (some ⟨g, 0, none⟩) cap (L.set i (row.set j v)) := by
  have hfl := flatten_set L hk i row hi j v hj
  refine ⟨by rw [hfl, List.length_set, List.length_set]; exact h.1, ?_⟩
  rcases h.2 with ⟨q, _⟩ | ⟨g', cap', cur, q, hb, hg, h1, h2, h3, h4⟩
  · simp at q
  · simp only [Value.slice.injEq, Option.some.injEq, Addr.mk.injEq] at q
    obtain ⟨⟨rfl, _⟩, _, rfl⟩ := q
    refine .inr ⟨g, cap, cur.setIfInBounds (i * k + j) v, by rw [List.length_set], hb, heap_setCell_same w g _ cur e v hg, by rw [List.length_set]; exact h1, h2, by rw [Array.size_setIfInBounds]; exact h3, ?_⟩
    rw [hfl, ← h4, List.length_set, Array.toList_setIfInBounds, List.take_set]
theorem own_other {w : World} {lo e k : Nat} {a : Option Addr} {cap : Nat} {L : List (List Value)} (h : OwnL w lo e k a cap L) {g : Nat} (hg : g ∉ blk a) (o : Nat) (v : Value) : OwnL (w.setCell ⟨g, o, none⟩ v) lo e k a cap L :=
  own_keep h fun b hb => heap_setCell_other _ _ _ _ (fun q => hg (by rw [← show b = g from q]; exact hb))
end Go.Proofs.Ytaghfahhfockkaa.pg
