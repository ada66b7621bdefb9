/- A new reader: the contract of package octet's NewReader. -/
import Derived.Test.YtecimplpfghikaaRefTake
import Derived.Test.YtecimplpfghikaaRefPutB
import Derived.Lib.SliceRun
namespace Go.Proofs.Ytecimplpfghikaa.octet
open Go.ChangeShapes Go.WideShapes Go.ChangeAt Go.RowKit
open wrapped
set_option linter.unusedVariables false
theorem owns_lit (w : World) : (w.alloc (.cells #[] 5)).ownsRow w.heap.size 5 1 (mine w.heap.size 0 0) 0 [] := World.ownsRow_lit w #[] 0 (Nat.le_refl _) (by unfold maxLen; decide) rfl
theorem clone_any (B n c : Nat) (f : Nat → Nat) (w : World) (hr : Row w (some ⟨B, 0, none⟩) n f) (hl : (n : Int) ≤ 140737488351232) :
    Calls Try.prog 41 #[mine B n c] w fun e w' => ∃ g c', e = .returned (mine g n c') ∧ Owns w' w.heap.size g n c' f ∧ Below w.heap.size w w' ∧ n ≤ c' ∧ (c' : Int) ≤ 9223372036854775807 := by
  obtain ⟨i0, hi, hz0, hz1, hz2⟩ := info_parts info5
  have o0 := owns_lit w
  have hrI : ∀ w', Below w.heap.size w w' → Row w' (some ⟨B, 0, none⟩) n f := fun w' h => hr.later h
  have hb0 : Below w.heap.size w (w.alloc (.cells #[] 5)) := (Below.refl _ w).alloc (Nat.le_refl _) _
  have hnil := fun w => Lib.run_eql_slice_nil (P := Try.prog) w 22 5 (some ⟨B, 0, none⟩) n c 0 0 Try.underlying22
  clear hr
  show Calls Try.prog 41 #[.slice (some ⟨B, 0, none⟩) n c] w _
  go_enter Try.func41, Try.ntmps41
  go_wp2_with (at_builtin; go_loud (refine wpList_append_own _ rfl (.tmp 5) (.tmp 6) 22 rfl w.heap.size 5 i0 (.int .u8 0) 1 1 Try.underlying22 hi hz0 hz1 hz2 rfl (by decide) (mine w.heap.size 0 0) 0 [] rfl o0 ⟨B, 0, none⟩ n c (bl f n) rfl (by rw [bl_length]; omega) (Row.cells (hrI _ hb0) _ rfl) (bl_one f n) (by unfold maxLen; omega) (by omega) hb0.size ?_; intro v1 w1 ho1 hg1 hn1))
  simp only [Nat.zero_add, List.nil_append] at ho1
  have hb1 : Below w.heap.size w w1 := hb0.grown hg1 hb0.size (ownBlock_ge o0)
  have hv : ∃ g c', v1 = mine g n c' ∧ Owns w1 w.heap.size g n c' f ∧ n ≤ c' ∧ (c' : Int) ≤ 9223372036854775807 := by
    rcases ho1.2 with ⟨h1, _⟩ | ⟨g, c', cur, rfl, hr⟩
    · have := (hn1.1 h1).1; cases this
    · have hm := hr.2.2.2.1
      unfold maxLen at hm
      exact ⟨g, c', rfl, ⟨ho1.1, .inr ⟨g, c', cur, rfl, hr⟩⟩, hr.2.2.1, by omega⟩
  obtain ⟨g, c', rfl, ho, hc1, hc2⟩ := hv
  clear ho1 hg1 hn1
  go_ret
  exact ⟨g, c', rfl, ho, hb1, hc1, hc2⟩
/-- What a new reader is. -/
def NewRd (n : Nat) (f : Nat → Nat) (w : World) (e : Ending) (w' : World) : Prop :=
  ∃ r g c', e = .returned (rp r) ∧ Rd w' r 75 (mine g n c') 0 ∧ Owns w' w.heap.size g n c' f ∧ Below w.heap.size w w' ∧ n ≤ c' ∧ (c' : Int) ≤ 9223372036854775807 ∧ w.heap.size ≤ r ∧ w.heap.size ≤ g ∧ g ≠ r
theorem newreader_any (B n c : Nat) (f : Nat → Nat) (w : World) (hr : Row w (some ⟨B, 0, none⟩) n f) (hl : (n : Int) ≤ 140737488351232) :
    Calls Try.prog 23 #[mine B n c] w (NewRd n f w) := by
  have cC := clone_any B n c f w hr hl
  clear hr
  go_enter Try.func23, Try.ntmps23
  go_wp2_with (go_at_call 41; with_reducible refine cC.mono ?_; rintro e w1 ⟨g, c', rfl, ho, hb, hc1, hc2⟩)
  go_ways
  go_ret
  have hg : w.heap.size ≤ g ∧ g < w1.heap.size := by
    refine ⟨?_, Owns.block ho⟩
    rcases ho.2 with ⟨h', _⟩ | ⟨g', cap', cur, h', hbs, _⟩
    · simp at h'
    · simp only [Value.slice.injEq, Option.some.injEq, Addr.mk.injEq, and_true, true_and] at h'
      obtain ⟨rfl, rfl⟩ := h'
      exact hbs
  have hb2 : Below w1.heap.size w1 (w1.alloc (.cells #[mine g n c', .int .i64 0] 75)) := (Below.refl _ w1).alloc (Nat.le_refl _) _
  exact ⟨w1.heap.size, g, c', rfl, heap_alloc_new w1 _, Owns.later ho hb2, hb.trans (hb2.mono hb.size), hc1, hc2, hb.size, hg.1, by omega⟩
end Go.Proofs.Ytecimplpfghikaa.octet
