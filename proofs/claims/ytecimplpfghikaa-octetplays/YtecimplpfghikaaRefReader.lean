/- A reader in memory: the contracts of the document's own reader, but for Take. -/
import Derived.Test.YtecimplpfghikaaReader
import Derived.Test.YtecimplpfghikaaRefGet
import Derived.Deep.QuietTactic
import Derived.BigQuiet
import Derived.WalkSmall
namespace Go.Proofs.Ytecimplpfghikaa.octet
open Go.ChangeShapes Go.WideShapes Go.ChangeAt Go.RowKit
open wrapped
set_option linter.unusedVariables false
theorem Rd.drewN {w : World} {b : Nat} {t : TypeId} {S : Value} {k : Int} (h : Rd w b t S k) (m : Nat) : Rd (w.drewN m) b t S k := h
theorem Row.drewN {w : World} {a : Option Addr} {n : Nat} {f : Nat → Nat} (h : Row w a n f) (m : Nat) : Row (w.drewN m) a n f := h
theorem refend_any (b : Nat) (a : Option Addr) (n c k : Nat) (w : World) (h : Rd w b 51 (.slice a n c) k) (hk : k ≤ n) : Calls Try.prog 31 #[rp b] w fun e w' => e = .returned (.int .i64 (endOf n k)) ∧ ∃ m, w' = w.drewN m := by
  have c0 := h.c0
  have c1 := h.c1
  unfold endOf
  by_cases hlt : k < n
  · rw [if_pos hlt]
    have hd : (k : Int) < (n : Int) := by omega
    clear h hk hlt
    go_enter Try.func31, Try.ntmps31
    go_wp2_with fail
    go_quiet (fail)
    go_wp2
    go_ret
    exact ⟨rfl, _, rfl⟩
  · rw [if_neg hlt]
    have hd : (n : Int) ≤ (k : Int) := by omega
    clear h hk hlt
    go_enter Try.func31, Try.ntmps31
    go_wp2_with fail
    go_quiet (fail)
    go_wp2
    go_ret
    exact ⟨rfl, _, rfl⟩
theorem refuint_err (b : Nat) (a : Option Addr) (n c k : Nat) (f : Nat → Nat) (w : World) (h : Rd w b 51 (.slice a n c) k) (hr : Row w a n f) (X E R : Int) (hG : gotten f n k = (X, E, R)) (hR : ¬ R = 0) (hk : k ≤ n) :
    Calls Try.prog 25 #[rp b] w fun e w' => e = .returned (.tuple #[.int .u64 0, .int .i64 R]) ∧ ∃ m, w' = w.drewN m := by
  have cG : ∀ m, Calls Try.prog 18 #[.slice a n c, .int .i64 k] (w.drewN m) _ := fun m => refget_any a n c k f (w.drewN m) (hr.drewN m) X E R hG (by omega) (by have := hr.1; omega)
  obtain ⟨rfl, rfl⟩ := gotten_err f n k X E R hG hR
  have c0 := h.c0
  have c1 := h.c1
  have hR1 : (R == 0) = false := by simpa using hR
  clear h hr hG hk hR
  go_enter Try.func25, Try.ntmps25
  go_wp2_with fail
  go_quiet ((go_at_call 18; exact Calls.quiet_of_same (cG _)))
  go_wp2
  go_ret2
  exact ⟨rfl, _, rfl⟩
theorem refuint_ok (b : Nat) (a : Option Addr) (n c k : Nat) (f : Nat → Nat) (w : World) (h : Rd w b 51 (.slice a n c) k) (hr : Row w a n f) (X E : Int) (hG : gotten f n k = (X, E, 0)) (hk : k ≤ n) :
    Calls Try.prog 25 #[rp b] w fun e w' => e = .returned (.tuple #[.int .u64 X, .int .i64 0]) ∧ ∃ m, w' = (w.drewN m).setCell ⟨b, 1, none⟩ (.int .i64 E) := by
  have cG : ∀ m, Calls Try.prog 18 #[.slice a n c, .int .i64 k] (w.drewN m) _ := fun m => refget_any a n c k f (w.drewN m) (hr.drewN m) X E 0 hG (by omega) (by have := hr.1; omega)
  have c0 := h.c0
  have c1 := h.c1
  have fz := h.fz 1
  clear h hr hG hk
  go_enter Try.func25, Try.ntmps25
  go_wp2_with fail
  go_quiet ((go_at_call 18; exact Calls.quiet_of_same (cG _)))
  go_wp2
  go_ret2
  exact ⟨rfl, _, rfl⟩
theorem refint_err (b : Nat) (a : Option Addr) (n c k : Nat) (f : Nat → Nat) (w : World) (h : Rd w b 51 (.slice a n c) k) (hr : Row w a n f) (X E R : Int) (hG : gotten f n k = (X, E, R)) (hR : ¬ R = 0) (hk : k ≤ n) :
    Calls Try.prog 27 #[rp b] w fun e w' => e = .returned (.tuple #[.int .i64 0, .int .i64 R]) ∧ ∃ m, w' = w.drewN m := by
  have cG : ∀ m, Calls Try.prog 20 #[.slice a n c, .int .i64 k] (w.drewN m) _ := fun m => refgetint_any a n c k f (w.drewN m) (hr.drewN m) X E R hG (by omega) (by have := hr.1; omega) 0 (by rw [(gotten_err f n k X E R hG hR).1]; rfl)
  obtain ⟨rfl, rfl⟩ := gotten_err f n k X E R hG hR
  have c0 := h.c0
  have c1 := h.c1
  have hR1 : (R == 0) = false := by simpa using hR
  clear h hr hG hk hR
  go_enter Try.func27, Try.ntmps27
  go_wp2_with fail
  go_quiet ((go_at_call 20; exact Calls.quiet_of_same (cG _)))
  go_wp2
  go_ret2
  exact ⟨rfl, _, rfl⟩
theorem refint_ok (b : Nat) (a : Option Addr) (n c k : Nat) (f : Nat → Nat) (w : World) (h : Rd w b 51 (.slice a n c) k) (hr : Row w a n f) (X E Y : Int) (hG : gotten f n k = (X, E, 0)) (hY : zb X = Y) (hk : k ≤ n) :
    Calls Try.prog 27 #[rp b] w fun e w' => e = .returned (.tuple #[.int .i64 Y, .int .i64 0]) ∧ ∃ m, w' = (w.drewN m).setCell ⟨b, 1, none⟩ (.int .i64 E) := by
  have cG : ∀ m, Calls Try.prog 20 #[.slice a n c, .int .i64 k] (w.drewN m) _ := fun m => refgetint_any a n c k f (w.drewN m) (hr.drewN m) X E 0 hG (by omega) (by have := hr.1; omega) Y hY
  have c0 := h.c0
  have c1 := h.c1
  have fz := h.fz 1
  clear h hr hG hk
  go_enter Try.func27, Try.ntmps27
  go_wp2_with fail
  go_quiet ((go_at_call 20; exact Calls.quiet_of_same (cG _)))
  go_wp2
  go_ret2
  exact ⟨rfl, _, rfl⟩
end Go.Proofs.Ytecimplpfghikaa.octet
