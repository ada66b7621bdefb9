/- A reader in memory: the contracts of package octet's reader, but for Take. -/
import Derived.Test.YtikkgfmhnmoalaaM13
import Derived.BigRegion
import Derived.Lib.SliceRun
import Derived.Test.YtikkgfmhnmoalaaM12
namespace Go.Proofs.Ytikkgfmhnmoalaa.octet
open Go.ChangeShapes Go.WideShapes Go.ChangeAt Go.RowKit
open wrapped
set_option linter.unusedVariables false
/-- A struct of a list of bytes and a place, as block b of type t. -/
def Rd (w : World) (b : Nat) (t : TypeId) (S : Value) (k : Int) : Prop := w.heap[b]? = some (.cells #[S, .int .i64 k] t (0, 0))
abbrev rp (b : Nat) : Value := .pointer (some ⟨b, 0, none⟩)
theorem Rd.c0 {w : World} {b : Nat} {t : TypeId} {S : Value} {k : Int} (h : Rd w b t S k) : w.cell? ⟨b, 0, none⟩ = some S := by rw [cell_of_row w b 0 _ t (0, 0) h]; rfl
theorem Rd.c1 {w : World} {b : Nat} {t : TypeId} {S : Value} {k : Int} (h : Rd w b t S k) : w.cell? ⟨b, 1, none⟩ = some (.int .i64 k) := by rw [cell_of_row w b 1 _ t (0, 0) h]; rfl
theorem Rd.fz {w : World} {b : Nat} {t : TypeId} {S : Value} {k : Int} (h : Rd w b t S k) (j : Nat) : w.frozen? ⟨b, j, none⟩ = false := frozen_of_row w b j _ t h
theorem Rd.lt {w : World} {b : Nat} {t : TypeId} {S : Value} {k : Int} (h : Rd w b t S k) : b < w.heap.size := (Array.getElem?_eq_some_iff.mp h).1
theorem Rd.set {w : World} {b : Nat} {t : TypeId} {S : Value} {k : Int} (h : Rd w b t S k) (k' : Int) : Rd (w.setCell ⟨b, 1, none⟩ (.int .i64 k')) b t S k' := heap_setCell_same w b 1 _ t _ h
theorem Rd.other {w : World} {b c : Nat} {t : TypeId} {S : Value} {k : Int} (h : Rd w b t S k) (hc : b ≠ c) (j : Nat) (v : Value) : Rd (w.setCell ⟨c, j, none⟩ v) b t S k := (heap_setCell_other w ⟨c, j, none⟩ b v hc).trans h
theorem Rd.later {w w' : World} {b : Nat} {t : TypeId} {S : Value} {k : Int} (h : Rd w b t S k) (hb : Below w.heap.size w w') : Rd w' b t S k := (hb.block b h.lt).trans h
theorem at_any (b : Nat) (S : Value) (k : Int) (w : World) (h : Rd w b 109 S k) : Calls Try.prog 50 #[rp b] w fun e w' => e = .returned (.int .i64 k) ∧ w' = w := by
  have c1 := h.c1
  clear h
  go_enter Try.func50, Try.ntmps50
  go_wp2
  go_ret
  exact ⟨rfl, rfl⟩
theorem all_any (b : Nat) (a : Option Addr) (n c : Nat) (k : Int) (w : World) (h : Rd w b 109 (.slice a n c) k) : Calls Try.prog 59 #[rp b] w fun e w' => e = .returned (.slice a n c) ∧ w' = w := by
  have c0 := h.c0
  clear h
  go_enter Try.func59, Try.ntmps59
  go_wp2
  go_ret
  exact ⟨rfl, rfl⟩
theorem left_any (b : Nat) (a : Option Addr) (n c k : Nat) (w : World) (h : Rd w b 109 (.slice a n c) k) (hk : k ≤ n) (hn : (n : Int) ≤ 9223372036854775807) : Calls Try.prog 57 #[rp b] w fun e w' => e = .returned (.int .i64 ((n : Int) - (k : Int))) ∧ w' = w := by
  have cA := all_any b a n c k w h
  have cT := at_any b _ k w h
  have hkI : (k : Int) ≤ n := by omega
  clear h hk
  go_enter Try.func57, Try.ntmps57
  go_wp2_with (first | (go_at_call 59; with_reducible refine cA.mono ?_; rintro e w' ⟨rfl, hw⟩; replace hw := hw.symm; subst hw) | (go_at_call 50; with_reducible refine cT.mono ?_; rintro e w' ⟨rfl, hw⟩; replace hw := hw.symm; subst hw))
  go_ret
  exact ⟨rfl, rfl⟩
/-- What End tells. -/
def endOf (n k : Nat) : Int := if k < n then 13 else 0
theorem end_any (b : Nat) (a : Option Addr) (n c k : Nat) (w : World) (h : Rd w b 109 (.slice a n c) k) (hk : k ≤ n) (hn : (n : Int) ≤ 9223372036854775807) : Calls Try.prog 51 #[rp b] w fun e w' => e = .returned (.int .i64 (endOf n k)) ∧ w' = w := by
  have cL := left_any b a n c k w h hk hn
  unfold endOf
  by_cases hlt : k < n
  · rw [if_pos hlt]
    have hd : (0 : Int) < (n : Int) - (k : Int) := by omega
    clear h hk
    go_enter Try.func51, Try.ntmps51
    go_wp2_with (go_at_call 57; with_reducible refine cL.mono ?_; rintro e w' ⟨rfl, hw⟩; replace hw := hw.symm; subst hw)
    go_ret
    exact ⟨rfl, rfl⟩
  · rw [if_neg hlt]
    have hd : (n : Int) - (k : Int) ≤ 0 := by omega
    clear h hk
    go_enter Try.func51, Try.ntmps51
    go_wp2_with (go_at_call 57; with_reducible refine cL.mono ?_; rintro e w' ⟨rfl, hw⟩; replace hw := hw.symm; subst hw)
    go_ret
    exact ⟨rfl, rfl⟩
theorem uint_err (b : Nat) (a : Option Addr) (n c k : Nat) (f : Nat → Nat) (w : World) (h : Rd w b 109 (.slice a n c) k) (hr : Row w a n f) (X E R : Int) (hG : gotten f n k = (X, E, R)) (hR : ¬ R = 0) (hk : k ≤ n) :
    Calls Try.prog 56 #[rp b] w fun e w' => e = .returned (.tuple #[.int .u64 0, .int .i64 R]) ∧ w' = w := by
  have cA := all_any b a n c k w h
  have cT := at_any b _ k w h
  have cG := get_any a n c k f w hr X E R hG (by omega) (by have := hr.1; omega)
  have hR1 : (R != 0) = true := by simpa using hR
  clear h hr hG hk
  go_enter Try.func56, Try.ntmps56
  go_wp2_with (first | (go_at_call 59; with_reducible refine cA.mono ?_; rintro e w' ⟨rfl, hw⟩; replace hw := hw.symm; subst hw) | (go_at_call 50; with_reducible refine cT.mono ?_; rintro e w' ⟨rfl, hw⟩; replace hw := hw.symm; subst hw) | (go_at_call 58; with_reducible refine cG.mono ?_; rintro e w' ⟨rfl, hw⟩; replace hw := hw.symm; subst hw))
  go_ret2
  exact ⟨rfl, rfl⟩
theorem uint_ok (b : Nat) (a : Option Addr) (n c k : Nat) (f : Nat → Nat) (w : World) (h : Rd w b 109 (.slice a n c) k) (hr : Row w a n f) (X E : Int) (hG : gotten f n k = (X, E, 0)) (hk : k ≤ n) :
    Calls Try.prog 56 #[rp b] w fun e w' => e = .returned (.tuple #[.int .u64 X, .int .i64 0]) ∧ w' = w.setCell ⟨b, 1, none⟩ (.int .i64 E) := by
  have cA := all_any b a n c k w h
  have cT := at_any b _ k w h
  have cG := get_any a n c k f w hr X E 0 hG (by omega) (by have := hr.1; omega)
  have c1 := h.c1
  have fz := h.fz 1
  clear h hr hG hk
  go_enter Try.func56, Try.ntmps56
  go_wp2_with (first | (go_at_call 59; with_reducible refine cA.mono ?_; rintro e w' ⟨rfl, hw⟩; replace hw := hw.symm; subst hw) | (go_at_call 50; with_reducible refine cT.mono ?_; rintro e w' ⟨rfl, hw⟩; replace hw := hw.symm; subst hw) | (go_at_call 58; with_reducible refine cG.mono ?_; rintro e w' ⟨rfl, hw⟩; replace hw := hw.symm; subst hw))
  go_ret2
  exact ⟨rfl, rfl⟩
end Go.Proofs.Ytikkgfmhnmoalaa.octet
/- A reader in memory: the contract of Take, and of a new reader, of any bytes, none too. -/
namespace Go.Proofs.Ytikkgfmhnmoalaa.octet
open Go.ChangeShapes Go.WideShapes Go.ChangeAt Go.RowKit
open wrapped
set_option linter.unusedVariables false
theorem part_cells {w : World} {base g n c k q : Nat} {f : Nat → Nat} (ho : Owns w base g n c f) (hq : k + q ≤ n) (j : Nat) (v : Value) (hj : (bl (fun i => f (k + i)) q)[j]? = some v) : w.cell? ((⟨g, k, none⟩ : Addr).add j) = some v := by
  have hjn : j < q := by
    have := (List.getElem?_eq_some_iff.mp hj).1
    rwa [bl_length] at this
  rw [bl_get _ _ _ hjn] at hj
  have := World.ownsRow.cellAt ho (k + j) (by omega)
  rw [bl_get _ _ _ (by omega)] at this
  rw [← hj, ← this]
  by_cases h0 : j = 0
  · subst h0; simp [Addr.add]
  · simp [Addr.add, h0]
theorem owns_lit (w : World) : (w.alloc (.cells #[] 5)).ownsRow w.heap.size 5 1 (mine w.heap.size 0 0) 0 [] := World.ownsRow_lit w #[] 0 (Nat.le_refl _) (by unfold maxLen; decide) rfl
theorem own_ge {w : World} {base n : Nat} {v : Value} {xs : List Value} (h : w.ownsRow base 5 1 v n xs) : ∀ k, v.ownBlock = some k → base ≤ k := by
  intro k hk
  rcases h.2 with ⟨rfl, _⟩ | ⟨g, c, cur, rfl, hbs, _⟩
  · simp [Value.ownBlock] at hk
  · simp [Value.ownBlock] at hk; omega
theorem clone_some (ad : Addr) (n c : Nat) (f : Nat → Nat) (w : World) (hr : Row w (some ad) n f) (hl : (n : Int) ≤ 140737488351232) :
    Calls Try.prog 54 #[.slice (some ad) n c] w fun e w' => ∃ g c', e = .returned (mine g n c') ∧ Owns w' w.heap.size g n c' f ∧ Below w.heap.size w w' ∧ n ≤ c' ∧ (c' : Int) ≤ 9223372036854775807 := by
  obtain ⟨i0, hi, hz0, hz1, hz2⟩ := info_parts info5
  have o0 := owns_lit w
  have hrI : ∀ w', Below w.heap.size w w' → Row w' (some ad) n f := fun w' h => hr.later h
  have hb0 : Below w.heap.size w (w.alloc (.cells #[] 5)) := (Below.refl _ w).alloc (Nat.le_refl _) _
  have hnil := fun w => Lib.run_eql_slice_nil (P := Try.prog) w 32 5 (some ad) n c 0 0 Try.underlying32
  clear hr
  go_enter Try.func54, Try.ntmps54
  go_wp2_with (at_builtin; go_loud (refine wpList_append_own _ rfl (.tmp 5) (.tmp 6) 32 rfl w.heap.size 5 i0 (.int .u8 0) 1 1 Try.underlying32 hi hz0 hz1 hz2 rfl (by decide) (mine w.heap.size 0 0) 0 [] rfl o0 ad n c (bl f n) rfl (by rw [bl_length]; omega) (Row.cells (hrI _ hb0) _ rfl) (bl_one f n) (by unfold maxLen; omega) (by omega) hb0.size ?_; intro v1 w1 ho1 hg1 hn1))
  simp only [Nat.zero_add, List.nil_append] at ho1
  have hb1 : Below w.heap.size w w1 := hb0.grown hg1 hb0.size (own_ge o0)
  have hv : ∃ g c', v1 = mine g n c' ∧ Owns w1 w.heap.size g n c' f ∧ n ≤ c' ∧ (c' : Int) ≤ 9223372036854775807 := by
    rcases ho1.2 with ⟨h1, _⟩ | ⟨g, c', cur, rfl, hr⟩
    · have := (hn1.1 h1).1; cases this
    · have hm := hr.2.2.2.1
      unfold maxLen at hm
      exact ⟨g, c', rfl, ⟨ho1.1, .inr ⟨g, c', cur, rfl, hr⟩⟩, hr.2.2.1, by omega⟩
  obtain ⟨g, c', rfl, ho, hc1, hc2⟩ := hv
  clear ho1 hg1 hn1
  go_ret
  exact ⟨g, c', rfl, ho, hb1, hc1, hc2⟩
theorem clone_nil (w : World) : Calls Try.prog 54 #[.slice none 0 0] w fun e w' => e = .returned (.slice none 0 0) ∧ w' = w := by
  have hnil := fun w => Lib.run_eql_slice_nil (P := Try.prog) w 32 5 none 0 0 0 0 Try.underlying32
  go_enter Try.func54, Try.ntmps54
  go_wp2
  go_ret
  exact ⟨rfl, rfl⟩
/-- What a new reader is. -/
def NewRd (n : Nat) (f : Nat → Nat) (w : World) (e : Ending) (w' : World) : Prop :=
  ∃ r ba bc, e = .returned (rp r) ∧ Rd w' r 109 (.slice ba n bc) 0 ∧ Row w' ba n f ∧ Below w.heap.size w w' ∧ w.heap.size ≤ r ∧ (n = 0 ∧ ba = none ∨ ∃ g, ba = some ⟨g, 0, none⟩ ∧ Owns w' w.heap.size g n bc f ∧ w.heap.size ≤ g ∧ g < w'.heap.size ∧ g ≠ r ∧ n ≤ bc ∧ (bc : Int) ≤ 9223372036854775807)
theorem newreader_some (ad : Addr) (n c : Nat) (f : Nat → Nat) (w : World) (hr : Row w (some ad) n f) (hl : (n : Int) ≤ 140737488351232) :
    Calls Try.prog 47 #[.slice (some ad) n c] w (NewRd n f w) := by
  have cC := clone_some ad n c f w hr hl
  have hf := hr.2.1
  clear hr
  go_enter Try.func47, Try.ntmps47
  go_wp2_with (go_at_call 54; with_reducible refine cC.mono ?_; rintro e w1 ⟨g, c', rfl, ho, hb, hc1, hc2⟩)
  go_ret
  have hg : w.heap.size ≤ g ∧ g < w1.heap.size := by
    refine ⟨?_, Owns.block ho⟩
    rcases ho.2 with ⟨h', _⟩ | ⟨g', cap', cur, h', hbs, _⟩
    · simp at h'
    · simp only [Value.slice.injEq, Option.some.injEq, Addr.mk.injEq, and_true, true_and] at h'
      obtain ⟨rfl, rfl⟩ := h'
      exact hbs
  have hb2 : Below w1.heap.size w1 (w1.alloc (.cells #[mine g n c', .int .i64 0] 109)) := (Below.refl _ w1).alloc (Nat.le_refl _) _
  have ho2 := Owns.later ho hb2
  refine ⟨w1.heap.size, some ⟨g, 0, none⟩, c', rfl, heap_alloc_new w1 _, Owns.row ho2 (by omega) hf, hb.trans (hb2.mono hb.size), hb.size, .inr ⟨g, rfl, ho2, hg.1, ?_, by omega, hc1, hc2⟩⟩
  rw [World.size_alloc]; omega
theorem newreader_nil (f : Nat → Nat) (hf : ∀ i, f i < 256) (w : World) : Calls Try.prog 47 #[.slice none 0 0] w (NewRd 0 f w) := by
  have cC := clone_nil w
  go_enter Try.func47, Try.ntmps47
  go_wp2_with (go_at_call 54; with_reducible refine cC.mono ?_; rintro e w' ⟨rfl, hw⟩; replace hw := hw.symm; subst hw)
  go_ret
  exact ⟨w.heap.size, none, 0, rfl, heap_alloc_new w _, ⟨by decide, hf, .inl rfl⟩, (Below.refl _ w).alloc (Nat.le_refl _) _, Nat.le_refl _, .inl ⟨rfl, rfl⟩⟩
end Go.Proofs.Ytikkgfmhnmoalaa.octet
/- Four bytes read as a number: the contracts of package octet's GetFixed and of the document's own. -/
namespace Go.Proofs.Ytikkgfmhnmoalaa.octet
open Go.ChangeShapes Go.WideShapes Go.ChangeAt Go.RowKit
open wrapped
set_option linter.unusedVariables false
/-- The number of the first k bytes. -/
def big (g : Nat → Nat) : Nat → Nat
  | 0 => 0
  | k + 1 => big g k * 256 + g k
theorem big_lt (g : Nat → Nat) (hg : ∀ i, g i < 256) (k : Nat) : big g k < 256 ^ k := by
  induction k with
  | zero => show (0 : Nat) < 1; decide
  | succ k ih =>
    show big g k * 256 + g k < 256 ^ (k + 1)
    rw [Nat.pow_succ]
    have := hg k
    omega
/-- What GetFixed answers at every place. -/
def gotFix (f : Nat → Nat) (n : Nat) (at_ : Int) : Int × Int × Int := if 0 ≤ at_ ∧ at_ ≤ n then (if (n : Int) - at_ < 4 then (0, 0, 10) else (((big (fun i => f (at_.toNat + i)) 4 : Nat) : Int), at_ + 4, 0)) else (0, 0, 1)
theorem or_byte (V C : Nat) (hC : C < 256) : V * 256 ||| C = V * 256 + C := by
  have := Nat.two_pow_add_eq_or_of_lt (i := 8) (b := C) hC V
  rw [show V * 256 = 2 ^ 8 * V by omega]; exact this.symm
set_option maxHeartbeats 1000000 in
set_option maxRecDepth 100000 in
theorem getfix_walk (a : Option Addr) (n c s : Nat) (f : Nat → Nat) (w : World) (hr : Row w a n f) (hs : s + 4 ≤ n) (hnI : (n : Int) ≤ 9223372036854775807) (X : Int) (hX : Hid (((big (fun i => f (s + i)) 4 : Nat) : Int) = X)) :
    Calls Try.prog 48 #[.slice a n c, .int .i64 ((s : Nat) : Int)] w fun e w' => e = .returned (.tuple #[.int .u32 X, .int .i64 ((s : Int) + 4), .int .i64 0]) ∧ w' = w := by
  obtain ⟨hlen, hf, hcells⟩ := hr
  have hsI : (s : Int) + 4 ≤ n := by omega
  have hsn : (s : Int) ≤ n := by omega
  have hs4 : ¬ ((n : Int) - (s : Int) < 4) := by omega
  rcases hcells with h0 | ⟨b, off, rfl, hcell⟩
  · omega
  clear hlen
  go_enter Try.func48, Try.ntmps48
  go_wp2_with (go_in)
  go_loop [7, 18] (fun x i => ∃ k : Nat, k ≤ 4 ∧ i = .int .i64 k ∧ x = .int .u32 ((big (fun i => f (s + i)) k : Nat) : Int)) (fun _ i => 4 - (intOf i).toNat)
  case atStart => exact ⟨0, by omega, rfl, rfl⟩
  case round =>
    obtain ⟨k, hk, rfl, rfl⟩ := hrel
    by_cases h4 : k < 4
    · have hc := hcell (s + k) (by omega)
      have hfk := hf (s + k)
      have hc2 : w.cell? ⟨b, off + s + k, none⟩ = some (.int .u8 ((f (s + k) : Nat) : Int)) := by rw [Nat.add_assoc]; exact hc
      have hb : big (fun i => f (s + i)) (k + 1) = big (fun i => f (s + i)) k * 256 + f (s + k) := rfl
      have hl := big_lt (fun i => f (s + i)) (fun i => hf _) k
      have hl2 : 256 ^ k ≤ 256 ^ 3 := Nat.pow_le_pow_right (by decide) (by omega)
      have hl3 : big (fun i => f (s + i)) k < 16777216 := Nat.lt_of_lt_of_le hl hl2
      generalize f (s + k) = C at *
      have ho : bits .or .u32 (((big (fun i => f (s + i)) k : Nat) : Int) * 256) (C : Int) = ((big (fun i => f (s + i)) (k + 1) : Nat) : Int) := by
        have := u32_or_nat (big (fun i => f (s + i)) k * 256) C (by omega) (by omega)
        rw [or_byte _ C hfk] at this
        rw [hb]
        rw [Int.natCast_mul] at this
        exact this
      obtain ⟨V, hV⟩ : ∃ V : Int, Hid (((big (fun i => f (s + i)) k : Nat) : Int) = V) := ⟨_, rfl⟩
      obtain ⟨W, hW⟩ : ∃ W : Int, Hid (((big (fun i => f (s + i)) (k + 1) : Nat) : Int) = W) := ⟨_, rfl⟩
      have hV0 : 0 ≤ V := by rw [← hV.out]; omega
      have hVI : V < 16777216 := by rw [← hV.out]; omega
      rw [hV.out] at ho ⊢
      rw [hW.out] at ho
      clear hcell hf hX hb hl hl2 hl3 hV
      go_wp2
      go_round
      case rel => exact ⟨k + 1, by omega, by go_num, by rw [hW.out]⟩
      case measure => simp [intOf]; omega
    · have hk4 : k = 4 := by omega
      subst hk4
      rw [hX.out]
      clear hcell hf hX
      go_wp2
      go_ret3
      exact ⟨rfl, rfl⟩
set_option maxHeartbeats 1000000 in
set_option maxRecDepth 100000 in
theorem refgetfix_walk (a : Option Addr) (n c s : Nat) (f : Nat → Nat) (w : World) (hr : Row w a n f) (hs : s + 4 ≤ n) (hnI : (n : Int) ≤ 9223372036854775807) (X : Int) (hX : Hid (((big (fun i => f (s + i)) 4 : Nat) : Int) = X)) :
    Calls Try.prog 31 #[.slice a n c, .int .i64 ((s : Nat) : Int)] w fun e w' => e = .returned (.tuple #[.int .u32 X, .int .i64 ((s : Int) + 4), .int .i64 0]) ∧ w' = w := by
  obtain ⟨hlen, hf, hcells⟩ := hr
  have hsI : (s : Int) + 4 ≤ n := by omega
  have hsn : (s : Int) ≤ n := by omega
  have hs4 : ¬ ((n : Int) - (s : Int) < 4) := by omega
  rcases hcells with h0 | ⟨b, off, rfl, hcell⟩
  · omega
  clear hlen
  go_enter Try.func31, Try.ntmps31
  go_wp2
  go_loop [7, 8] (fun x i => ∃ k : Nat, k ≤ 4 ∧ i = .int .i64 k ∧ x = .int .u32 ((big (fun i => f (s + i)) k : Nat) : Int)) (fun _ i => 4 - (intOf i).toNat)
  case atStart => exact ⟨0, by omega, rfl, rfl⟩
  case round =>
    obtain ⟨k, hk, rfl, rfl⟩ := hrel
    by_cases h4 : k < 4
    · have hc := hcell (s + k) (by omega)
      have hfk := hf (s + k)
      have hc2 : w.cell? ⟨b, off + s + k, none⟩ = some (.int .u8 ((f (s + k) : Nat) : Int)) := by rw [Nat.add_assoc]; exact hc
      have hb : big (fun i => f (s + i)) (k + 1) = big (fun i => f (s + i)) k * 256 + f (s + k) := rfl
      have hl := big_lt (fun i => f (s + i)) (fun i => hf _) k
      have hl2 : 256 ^ k ≤ 256 ^ 3 := Nat.pow_le_pow_right (by decide) (by omega)
      have hl3 : big (fun i => f (s + i)) k < 16777216 := Nat.lt_of_lt_of_le hl hl2
      generalize f (s + k) = C at *
      obtain ⟨V, hV⟩ : ∃ V : Int, Hid (((big (fun i => f (s + i)) k : Nat) : Int) = V) := ⟨_, rfl⟩
      obtain ⟨W, hW⟩ : ∃ W : Int, Hid (((big (fun i => f (s + i)) (k + 1) : Nat) : Int) = W) := ⟨_, rfl⟩
      have hV0 : 0 ≤ V := by rw [← hV.out]; omega
      have hVI : V < 16777216 := by rw [← hV.out]; omega
      have hWH : Hid (W = V * 256 + (C : Int)) := by show W = _; rw [← hV.out, ← hW.out]; omega
      rw [hV.out]
      clear hcell hf hX hb hl hl2 hl3 hV
      go_wp2
      go_round
      case rel => exact ⟨k + 1, by omega, by go_num, by rw [hW.out, hWH.out]⟩
      case measure => simp [intOf]; omega
    · have hk4 : k = 4 := by omega
      subst hk4
      rw [hX.out]
      clear hcell hf hX
      go_wp2
      go_ret3
      exact ⟨rfl, rfl⟩
theorem getfix_any (a : Option Addr) (n c : Nat) (at_ : Int) (f : Nat → Nat) (w : World) (hr : Row w a n f) (X E R : Int) (h : gotFix f n at_ = (X, E, R)) (l1 : -9223372036854775808 ≤ at_) (l2 : at_ ≤ 9223372036854775807) :
    (Calls Try.prog 48 #[.slice a n c, .int .i64 at_] w fun e w' => e = .returned (.tuple #[.int .u32 X, .int .i64 E, .int .i64 R]) ∧ w' = w) ∧
    (Calls Try.prog 31 #[.slice a n c, .int .i64 at_] w fun e w' => e = .returned (.tuple #[.int .u32 X, .int .i64 E, .int .i64 R]) ∧ w' = w) := by
  unfold gotFix at h
  by_cases hb : 0 ≤ at_ ∧ at_ ≤ n
  · rw [if_pos hb] at h
    by_cases h4 : (n : Int) - at_ < 4
    · rw [if_pos h4] at h
      simp only [Prod.mk.injEq] at h
      obtain ⟨rfl, rfl, rfl⟩ := h
      have hn : (n : Int) ≤ 9223372036854775807 := by have := hr.1; omega
      obtain ⟨hb0, hb1⟩ := hb
      clear hr
      constructor
      · go_enter Try.func48, Try.ntmps48
        go_wp2_with (go_in)
        go_ret3
        exact ⟨rfl, rfl⟩
      · go_enter Try.func31, Try.ntmps31
        go_wp2
        go_ret3
        exact ⟨rfl, rfl⟩
    · rw [if_neg h4] at h
      simp only [Prod.mk.injEq] at h
      obtain ⟨hX, hE, hR⟩ := h
      have e : at_ = ((at_.toNat : Nat) : Int) := by omega
      have r1 := getfix_walk a n c at_.toNat f w hr (by omega) (by have := hr.1; omega) X hX
      have r2 := refgetfix_walk a n c at_.toNat f w hr (by omega) (by have := hr.1; omega) X hX
      rw [← e, hE, hR] at r1 r2
      exact ⟨r1, r2⟩
  · rw [if_neg hb] at h
    simp only [Prod.mk.injEq] at h
    obtain ⟨rfl, rfl, rfl⟩ := h
    have hn : (n : Int) ≤ 9223372036854775807 := by have := hr.1; omega
    clear hr
    by_cases h0 : at_ < 0
    · clear hb
      constructor
      · go_enter Try.func48, Try.ntmps48
        go_wp2_with (go_in)
        go_ret3
        exact ⟨rfl, rfl⟩
      · go_enter Try.func31, Try.ntmps31
        go_wp2
        go_ret3
        exact ⟨rfl, rfl⟩
    · have h1 : (n : Int) < at_ := by omega
      have h2 : decide (at_ ≤ (n : Int)) = false := decide_eq_false (by omega)
      clear hb
      constructor
      · go_enter Try.func48, Try.ntmps48
        go_wp2_with (go_in)
        go_ret3
        exact ⟨rfl, rfl⟩
      · clear h2
        go_enter Try.func31, Try.ntmps31
        go_wp2
        go_ret3
        exact ⟨rfl, rfl⟩
end Go.Proofs.Ytikkgfmhnmoalaa.octet
