/- A reader in memory: the contracts of package octet's reader, but for Take. -/
import Derived.Test.YtecimplpfghikaaBack
namespace Go.Proofs.Ytecimplpfghikaa.octet
open Go.ChangeShapes Go.WideShapes Go.ChangeAt Go.RowKit
open wrapped
set_option linter.unusedVariables false
/-- A struct of a list of bytes and a place, as block b of type t. -/
def Rd (w : World) (b : Nat) (t : TypeId) (S : Value) (k : Int) : Prop := w.heap[b]? = some (.cells #[S, .int .i64 k] t (0, 0))
abbrev rp (b : Nat) : Value := .pointer (some ⟨b, 0, none⟩)
theorem Rd.c0 {w : World} {b : Nat} {t : TypeId} {S : Value} {k : Int} (h : Rd w b t S k) : w.cell? ⟨b, 0, none⟩ = some S := by rw [cell_of_row w b 0 _ t (0, 0) h]; rfl
theorem Rd.c1 {w : World} {b : Nat} {t : TypeId} {S : Value} {k : Int} (h : Rd w b t S k) : w.cell? ⟨b, 1, none⟩ = some (.int .i64 k) := by rw [cell_of_row w b 1 _ t (0, 0) h]; rfl
theorem Rd.fz {w : World} {b : Nat} {t : TypeId} {S : Value} {k : Int} (h : Rd w b t S k) (j : Nat) : w.frozen? ⟨b, j, none⟩ = false := frozen_of_row w b j _ t h
theorem Rd.lt {w : World} {b : Nat} {t : TypeId} {S : Value} {k : Int} (h : Rd w b t S k) : b < w.heap.size := (Array.getElem?_eq_some_iff.mp h).1
theorem Rd.set {w : World} {b : Nat} {t : TypeId} {S : Value} {k : Int} (h : Rd w b t S k) (k' : Int) : Rd (w.setCell ⟨b, 1, none⟩ (.int .i64 k')) b t S k' := heap_setCell_same w b 1 _ t _ h
theorem Rd.other {w : World} {b c : Nat} {t : TypeId} {S : Value} {k : Int} (h : Rd w b t S k) (hc : b ≠ c) (j : Nat) (v : Value) : Rd (w.setCell ⟨c, j, none⟩ v) b t S k := (heap_setCell_other w ⟨c, j, none⟩ b v hc).trans h
theorem Rd.later {w w' : World} {b : Nat} {t : TypeId} {S : Value} {k : Int} (h : Rd w b t S k) (hb : Below w.heap.size w w') : Rd w' b t S k := (hb.block b h.lt).trans h
theorem at_any (b : Nat) (S : Value) (k : Int) (w : World) (h : Rd w b 75 S k) : Calls Try.prog 32 #[rp b] w fun e w' => e = .returned (.int .i64 k) ∧ w' = w := by
  have c1 := h.c1
  clear h
  go_enter Try.func32, Try.ntmps32
  go_wp2
  go_ret
  exact ⟨rfl, rfl⟩
theorem all_any (b : Nat) (a : Option Addr) (n c : Nat) (k : Int) (w : World) (h : Rd w b 75 (.slice a n c) k) : Calls Try.prog 42 #[rp b] w fun e w' => e = .returned (.slice a n c) ∧ w' = w := by
  have c0 := h.c0
  clear h
  go_enter Try.func42, Try.ntmps42
  go_wp2
  go_ret
  exact ⟨rfl, rfl⟩
theorem left_any (b : Nat) (a : Option Addr) (n c k : Nat) (w : World) (h : Rd w b 75 (.slice a n c) k) (hk : k ≤ n) (hn : (n : Int) ≤ 9223372036854775807) : Calls Try.prog 33 #[rp b] w fun e w' => e = .returned (.int .i64 ((n : Int) - (k : Int))) ∧ w' = w := by
  have cA := all_any b a n c k w h
  have cT := at_any b _ k w h
  have hkI : (k : Int) ≤ n := by omega
  clear h hk
  go_enter Try.func33, Try.ntmps33
  go_wp2_with (first | (go_at_call 42; with_reducible refine cA.mono ?_; rintro e w' ⟨rfl, hw⟩; replace hw := hw.symm; subst hw) | (go_at_call 32; with_reducible refine cT.mono ?_; rintro e w' ⟨rfl, hw⟩; replace hw := hw.symm; subst hw))
  go_ret
  exact ⟨rfl, rfl⟩
/-- What End tells. -/
def endOf (n k : Nat) : Int := if k < n then 13 else 0
theorem end_any (b : Nat) (a : Option Addr) (n c k : Nat) (w : World) (h : Rd w b 75 (.slice a n c) k) (hk : k ≤ n) (hn : (n : Int) ≤ 9223372036854775807) : Calls Try.prog 30 #[rp b] w fun e w' => e = .returned (.int .i64 (endOf n k)) ∧ w' = w := by
  have cL := left_any b a n c k w h hk hn
  unfold endOf
  by_cases hlt : k < n
  · rw [if_pos hlt]
    have hd : (0 : Int) < (n : Int) - (k : Int) := by omega
    clear h hk
    go_enter Try.func30, Try.ntmps30
    go_wp2_with (go_at_call 33; with_reducible refine cL.mono ?_; rintro e w' ⟨rfl, hw⟩; replace hw := hw.symm; subst hw)
    go_ret
    exact ⟨rfl, rfl⟩
  · rw [if_neg hlt]
    have hd : (n : Int) - (k : Int) ≤ 0 := by omega
    clear h hk
    go_enter Try.func30, Try.ntmps30
    go_wp2_with (go_at_call 33; with_reducible refine cL.mono ?_; rintro e w' ⟨rfl, hw⟩; replace hw := hw.symm; subst hw)
    go_ret
    exact ⟨rfl, rfl⟩
theorem uint_err (b : Nat) (a : Option Addr) (n c k : Nat) (f : Nat → Nat) (w : World) (h : Rd w b 75 (.slice a n c) k) (hr : Row w a n f) (X E R : Int) (hG : gotten f n k = (X, E, R)) (hR : ¬ R = 0) (hk : k ≤ n) :
    Calls Try.prog 24 #[rp b] w fun e w' => e = .returned (.tuple #[.int .u64 0, .int .i64 R]) ∧ w' = w := by
  have cA := all_any b a n c k w h
  have cT := at_any b _ k w h
  have cG := get_any a n c k f w hr X E R hG (by omega) (by have := hr.1; omega)
  have hR1 : (R != 0) = true := by simpa using hR
  clear h hr hG hk
  go_enter Try.func24, Try.ntmps24
  go_wp2_with (first | (go_at_call 42; with_reducible refine cA.mono ?_; rintro e w' ⟨rfl, hw⟩; replace hw := hw.symm; subst hw) | (go_at_call 32; with_reducible refine cT.mono ?_; rintro e w' ⟨rfl, hw⟩; replace hw := hw.symm; subst hw) | (go_at_call 17; with_reducible refine cG.mono ?_; rintro e w' ⟨rfl, hw⟩; replace hw := hw.symm; subst hw))
  go_ret2
  exact ⟨rfl, rfl⟩
theorem uint_ok (b : Nat) (a : Option Addr) (n c k : Nat) (f : Nat → Nat) (w : World) (h : Rd w b 75 (.slice a n c) k) (hr : Row w a n f) (X E : Int) (hG : gotten f n k = (X, E, 0)) (hk : k ≤ n) :
    Calls Try.prog 24 #[rp b] w fun e w' => e = .returned (.tuple #[.int .u64 X, .int .i64 0]) ∧ w' = w.setCell ⟨b, 1, none⟩ (.int .i64 E) := by
  have cA := all_any b a n c k w h
  have cT := at_any b _ k w h
  have cG := get_any a n c k f w hr X E 0 hG (by omega) (by have := hr.1; omega)
  have c1 := h.c1
  have fz := h.fz 1
  clear h hr hG hk
  go_enter Try.func24, Try.ntmps24
  go_wp2_with (first | (go_at_call 42; with_reducible refine cA.mono ?_; rintro e w' ⟨rfl, hw⟩; replace hw := hw.symm; subst hw) | (go_at_call 32; with_reducible refine cT.mono ?_; rintro e w' ⟨rfl, hw⟩; replace hw := hw.symm; subst hw) | (go_at_call 17; with_reducible refine cG.mono ?_; rintro e w' ⟨rfl, hw⟩; replace hw := hw.symm; subst hw))
  go_ret2
  exact ⟨rfl, rfl⟩
theorem int_err (b : Nat) (a : Option Addr) (n c k : Nat) (f : Nat → Nat) (w : World) (h : Rd w b 75 (.slice a n c) k) (hr : Row w a n f) (X E R : Int) (hG : gotten f n k = (X, E, R)) (hR : ¬ R = 0) (hk : k ≤ n) :
    Calls Try.prog 26 #[rp b] w fun e w' => e = .returned (.tuple #[.int .i64 0, .int .i64 R]) ∧ w' = w := by
  have cU := uint_err b a n c k f w h hr X E R hG hR hk
  have cZ : ∀ w, Calls Try.prog 34 #[.int .u64 0] w fun e w' => e = .returned (.int .i64 0) ∧ w' = w := zag_any 0 (by decide) (by decide)
  clear h hr hG hk
  go_enter Try.func26, Try.ntmps26
  go_wp2_with (first | (go_at_call 24; with_reducible refine cU.mono ?_; rintro e w' ⟨rfl, hw⟩; replace hw := hw.symm; subst hw) | (go_at_call 34; with_reducible refine (cZ _).mono ?_; rintro e w' ⟨rfl, hw⟩; replace hw := hw.symm; subst hw))
  go_ret2
  exact ⟨rfl, rfl⟩
theorem int_ok (b : Nat) (a : Option Addr) (n c k : Nat) (f : Nat → Nat) (w : World) (h : Rd w b 75 (.slice a n c) k) (hr : Row w a n f) (X E Y : Int) (hG : gotten f n k = (X, E, 0)) (hY : zb X = Y) (hk : k ≤ n) :
    Calls Try.prog 26 #[rp b] w fun e w' => e = .returned (.tuple #[.int .i64 Y, .int .i64 0]) ∧ w' = w.setCell ⟨b, 1, none⟩ (.int .i64 E) := by
  have cU := uint_ok b a n c k f w h hr X E hG hk
  obtain ⟨b0, b1⟩ := gotten_bd f hr.2.1 n k X E 0 hG
  have cZ := zag_any X b0 b1
  rw [hY] at cZ
  generalize w.setCell ⟨b, 1, none⟩ (.int .i64 E) = W at *
  clear h hr hG hk hY
  go_enter Try.func26, Try.ntmps26
  go_wp2_with (first | (go_at_call 24; with_reducible refine cU.mono ?_; rintro e w' ⟨rfl, hw⟩; replace hw := hw.symm; subst hw) | (go_at_call 34; with_reducible refine (cZ _).mono ?_; rintro e w' ⟨rfl, hw⟩; replace hw := hw.symm; subst hw))
  go_ret2
  exact ⟨rfl, rfl⟩
end Go.Proofs.Ytecimplpfghikaa.octet
