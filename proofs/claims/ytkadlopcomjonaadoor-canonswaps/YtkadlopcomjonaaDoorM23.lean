/- How many orders there are: the document's own count. -/
import Derived.Test.YtkadlopcomjonaaDoorM22
import Derived.Test.YtkadlopcomjonaaDoorM16
namespace Go.Proofs.YtkadlopcomjonaaDoor.pg
open Go.ChangeShapes Go.WideShapes Go.ChangeAt Go.RowKit Go.Shelf
set_option linter.unusedVariables false
set_option linter.unusedSimpArgs false
set_option maxRecDepth 100000
/-- What the first of the events that may come next add. -/
def sumT (B : Nat → Nat → Bool) (n m : Nat) (S : Nat → Bool) (k : Nat) : Nat := (((List.range k).filter (freeB B S)).map fun x => preS B n m (insS S x)).sum
theorem sumT_more (B : Nat → Nat → Bool) (n m : Nat) (S : Nat → Bool) (k : Nat) : sumT B n m S (k + 1) = sumT B n m S k + (if freeB B S k = true then preS B n m (insS S k) else 0) := by
  unfold sumT
  rw [List.range_succ, List.filter_append, List.map_append, List.sum_append_nat]
  congr 1
  by_cases h : freeB B S k = true
  · rw [if_pos h, List.filter_cons, if_pos h]; simp
  · rw [if_neg h, List.filter_cons, if_neg h]; simp
theorem sumT_up (B : Nat → Nat → Bool) (n m : Nat) (S : Nat → Bool) {k : Nat} : ∀ {j : Nat}, k ≤ j → sumT B n m S k ≤ sumT B n m S j
  | 0, h => by have : k = 0 := by omega
               subst this; exact Nat.le_refl _
  | j + 1, h => by
    by_cases e : k = j + 1
    · subst e; exact Nat.le_refl _
    · have := sumT_up B n m S (k := k) (j := j) (by omega)
      rw [sumT_more]; omega
theorem sumT_all (B : Nat → Nat → Bool) (n m : Nat) (S : Nat → Bool) : preS B n (m + 1) S = sumT B n m S n := rfl
/-- May it come next, as far as the first tell? -/
def frT (B : Nat → Nat → Bool) (S : Nat → Bool) (i j : Nat) : Bool := !S i && (List.range j).all fun k => S k || !B k i
theorem frT_more (B : Nat → Nat → Bool) (S : Nat → Bool) (i j : Nat) : frT B S i (j + 1) = (frT B S i j && (S j || !B j i)) := by
  unfold frT
  rw [List.range_succ, List.all_append, Bool.and_assoc]
  simp
theorem frT_no {B : Nat → Nat → Bool} {S : Nat → Bool} {i j : Nat} (h : frT B S i j = false) : ∀ {k : Nat}, j ≤ k → frT B S i k = false
  | 0, q => by have : j = 0 := by omega
               subst this; exact h
  | k + 1, q => by
    by_cases e : j = k + 1
    · subst e; exact h
    · rw [frT_more, frT_no h (k := k) (by omega)]; rfl
theorem frT_all (B : Nat → Nat → Bool) (S : Nat → Bool) (i : Nat) : freeB B S i = frT B S i i := rfl
abbrev objBl (n : Nat) (S : Nat → Bool) : Obj := .cells (boolRow n S) 4
theorem bl_ins {W : World} {Pb n i : Nat} {S : Nat → Bool} (h : W.heap[Pb]? = some (objBl n S)) : (W.setCell ⟨Pb, i, none⟩ (.bool true)).heap[Pb]? = some (objBl n (insS S i)) := by
  rw [setCell_eq_setRow W Pb i _ _ _ _ h, boolRow_set, setRow_heap W Pb _ _ _ _ h]
  have : (fun b => if b = i then true else S b) = insS S i := by
    funext b
    unfold insS
    by_cases e : b = i
    · rw [if_pos e, e]; simp
    · rw [if_neg e]
      have : (b == i) = false := by simpa using e
      rw [this, Bool.or_false]
  rw [this]
theorem bl_del {W : World} {Pb n i : Nat} {S : Nat → Bool} (hi : S i = false) (h : W.heap[Pb]? = some (objBl n (insS S i))) : (W.setCell ⟨Pb, i, none⟩ (.bool false)).heap[Pb]? = some (objBl n S) := by
  rw [setCell_eq_setRow W Pb i _ _ _ _ h, boolRow_set, setRow_heap W Pb _ _ _ _ h]
  have : (fun b => if b = i then false else insS S i b) = S := by
    funext b
    unfold insS
    by_cases e : b = i
    · rw [if_pos e, e, hi]
    · rw [if_neg e]
      have : (b == i) = false := by simpa using e
      rw [this, Bool.or_false]
  rw [this]
/-- Marked, called, and unmarked: nothing has changed. -/
theorem back_below {W w2 : World} {Pb n i : Nat} {S : Nat → Bool} (hi : S i = false) (h : W.heap[Pb]? = some (objBl n S)) (hb : Below (W.setCell ⟨Pb, i, none⟩ (.bool true)).heap.size (W.setCell ⟨Pb, i, none⟩ (.bool true)) w2) : Below W.heap.size W (w2.setCell ⟨Pb, i, none⟩ (.bool false)) := by
  have hl := (Array.getElem?_eq_some_iff.mp h).1
  have hs1 : (W.setCell ⟨Pb, i, none⟩ (.bool true)).heap.size = W.heap.size := World.size_setCell _ _ _
  have h1 : w2.heap[Pb]? = some (objBl n (insS S i)) := (hb.block Pb (by rw [hs1]; exact hl)).trans (bl_ins h)
  have hB1 : Below 0 W (W.setCell ⟨Pb, i, none⟩ (.bool true)) := (Below.refl 0 W).setCell (p := ⟨Pb, i, none⟩) (Nat.zero_le _) _
  have hB2 : Below 0 w2 (w2.setCell ⟨Pb, i, none⟩ (.bool false)) := (Below.refl 0 w2).setCell (p := ⟨Pb, i, none⟩) (Nat.zero_le _) _
  have hB := (hB1.trans (hb.mono (Nat.zero_le _))).trans hB2
  refine ⟨hB.os, hB.tape, hB.output, hB.size, fun b hbl => ?_⟩
  by_cases e : b = Pb
  · subst e
    rw [bl_del hi h1, h]
  · rw [Below.heap_setCell _ _ _ _ e, hb.block b (by rw [hs1]; exact hbl), Below.heap_setCell _ _ _ _ e]
end Go.Proofs.YtkadlopcomjonaaDoor.pg
/- How many orders there are: the document's Count. -/
namespace Go.Proofs.YtkadlopcomjonaaDoor.pg
open Go.ChangeShapes Go.WideShapes Go.ChangeAt Go.RowKit Go.Shelf
set_option linter.unusedVariables false
set_option linter.unusedSimpArgs false
set_option maxRecDepth 100000
end Go.Proofs.YtkadlopcomjonaaDoor.pg
/- The events that touch an object, by package depend; DependUses, walked. -/
namespace Go.Proofs.YtkadlopcomjonaaDoor.pg
open Go.ChangeShapes Go.WideShapes Go.ChangeAt Go.RowKit
set_option linter.unusedVariables false
set_option linter.unusedSimpArgs false
set_option maxRecDepth 100000
attribute [local go_sem ↓] Go.wp_at_zero Go.wp_at_succ
/-- Events that came in. -/
def EvsIn (w : World) (b : Option Addr) (c : Nat) (l : List Ev) : Prop := Rows w 26 b c (l.map Ev.cells) ∧ ∀ x ∈ l, x.wf
section
variable {H : Type} {enc : TypeId × Value → H} {w : World} {base : Nat} {spare : Nat → Bool} {held : Bool}
theorem evs_sz {n : Nat} {a : Option Addr} {len cap : Nat} {y : DataW H × List MemPlace} (h : DataW.trod enc Tryd.prog w base spare held n 22 [.slice a len cap] = some y) (hs : Sz Tryd.prog 22 y.1) : ∃ l : List Ev, l.length = len ∧ EvsIn w a cap l := by
  obtain ⟨l, rfl, h1, h2, h3⟩ := rows_sz (k := 26) ev0 Ev.cells Ev.wf Tryd.underlying22 (by kernel_rfl) (by omega) (fun n cs y hl h _ => ev_in hl h) h hs
  exact ⟨l, rfl, h1, h2⟩
end
set_option maxHeartbeats 1000000 in
theorem sameInts_u (l : List Int) (a b : Option Addr) (ca cb : Nat) (w : World) (ha : Rows w 1 a ca (l.map chCells)) (hb : Rows w 1 b cb (l.map chCells)) :
    Calls Tryd.prog 24 #[.slice a l.length ca, .slice b l.length cb] w fun e w' => e = .returned (.bool true) ∧ Below w.heap.size w w' := by
  have hlI : (l.length : Int) ≤ 9223372036854775807 := rows_len ha
  go_enter Tryd.func24, Tryd.ntmps24
  go_wp2_with fail
  go_loopw [13] (fun u wr => ∃ k : Nat, k ≤ l.length ∧ u = .int .i64 k ∧ Below w.heap.size w wr) (fun u _ => l.length - (intOf u).toNat)
  case atStart => exact ⟨0, Nat.zero_le _, rfl, Below.refl _ _⟩
  case round =>
    obtain ⟨k, hk, rfl, hbe⟩ := hrel
    by_cases hlt : k < l.length
    · obtain ⟨y, hy, hym⟩ := get_lt l k hlt
      obtain ⟨b1, o1, hix1, hbl1, c1⟩ := ch_ix (ha.later hbe) k y hy
      obtain ⟨b2, o2, hix2, hbl2, c2⟩ := ch_ix (hb.later hbe) k y hy
      have hkI : (k : Int) < l.length := by omega
      go_wp2_with fail
      go_quiet (fail)
      go_wp2
      go_roundw
      case rel => exact ⟨k + 1, by omega, by go_num, below_drewN hbe _⟩
      case measure => simp [intOf]; omega
    · have hk2 : k = l.length := by omega
      subst hk2
      go_wp2
      go_ret
      exact ⟨rfl, hbe⟩
end Go.Proofs.YtkadlopcomjonaaDoor.pg
