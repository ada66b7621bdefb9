/- Contracts of package word's conversions (convert, Apply at them, Fits). -/
import Derived.Test.YtecimplpfghikabWord
import Derived.Test.YtecimplpfghikabBits
namespace Go.Proofs.Ytecimplpfghikab.word
open Go.ChangeShapes Go.WideShapes Go.ChangeAt Go.RowKit
open wrapped
set_option linter.unusedVariables false
/-- What the conversion number k makes of a (10, 11, 12: to 8, 16, 32 bits with a sign; 13, 14, 15: without). -/
def cv (k a : Int) : Int :=
  if k = 10 then (a + 128) % 256 - 128 else if k = 11 then (a + 32768) % 65536 - 32768 else if k = 12 then (a + 2147483648) % 4294967296 - 2147483648
  else if k = 13 then a % 256 else if k = 14 then a % 65536 else a % 4294967296
theorem cv10 (a : Int) : cv 10 a = wrap64 (IntKind.i8.wrap a) := by
  show (a + 128) % 256 - 128 = _
  simp only [IntKind.wrap, IntKind.bits, IntKind.signed]; unfold wrap64; simp; split <;> omega
theorem cv11 (a : Int) : cv 11 a = wrap64 (IntKind.i16.wrap a) := by
  show (a + 32768) % 65536 - 32768 = _
  simp only [IntKind.wrap, IntKind.bits, IntKind.signed]; unfold wrap64; simp; split <;> omega
theorem cv12 (a : Int) : cv 12 a = wrap64 (wrap32 a) := by
  show (a + 2147483648) % 4294967296 - 2147483648 = _
  unfold wrap64 wrap32; omega
theorem cv13 (a : Int) : cv 13 a = a % 256 := rfl
theorem cv14 (a : Int) : cv 14 a = wrap64 (IntKind.u16.wrap a) := by
  show a % 65536 = _
  simp only [IntKind.wrap, IntKind.bits, IntKind.signed]; unfold wrap64; simp; omega
theorem cv15 (a : Int) : cv 15 a = a % 4294967296 := rfl
theorem conv_cases (k : Int) (h : 10 ≤ k) (g : k ≤ 15) : k = 10 ∨ k = 11 ∨ k = 12 ∨ k = 13 ∨ k = 14 ∨ k = 15 := by omega
theorem cv_bd (k a : Int) (h : 10 ≤ k) (g : k ≤ 15) : -2147483648 ≤ cv k a ∧ cv k a ≤ 4294967295 := by
  rcases conv_cases k h g with rfl | rfl | rfl | rfl | rfl | rfl
  · show -2147483648 ≤ (a + 128) % 256 - 128 ∧ (a + 128) % 256 - 128 ≤ 4294967295; omega
  · show -2147483648 ≤ (a + 32768) % 65536 - 32768 ∧ (a + 32768) % 65536 - 32768 ≤ 4294967295; omega
  · show -2147483648 ≤ (a + 2147483648) % 4294967296 - 2147483648 ∧ (a + 2147483648) % 4294967296 - 2147483648 ≤ 4294967295; omega
  · show -2147483648 ≤ a % 256 ∧ a % 256 ≤ 4294967295; omega
  · show -2147483648 ≤ a % 65536 ∧ a % 65536 ≤ 4294967295; omega
  · show -2147483648 ≤ a % 4294967296 ∧ a % 4294967296 ≤ 4294967295; omega
/-- A conversion behind a wider one of the same sign. -/
theorem cv_cv (k l a : Int) (h : 10 ≤ k) (hl : k ≤ l) (g : l ≤ 15) (s : k ≤ 12 ↔ l ≤ 12) : cv k (cv l a) = cv k a ∧ cv l (cv k a) = cv k a := by
  have d10 : ∀ a, cv 10 a = (a + 128) % 256 - 128 := fun _ => rfl
  have d11 : ∀ a, cv 11 a = (a + 32768) % 65536 - 32768 := fun _ => rfl
  have d12 : ∀ a, cv 12 a = (a + 2147483648) % 4294967296 - 2147483648 := fun _ => rfl
  have d13 : ∀ a, cv 13 a = a % 256 := fun _ => rfl
  have d14 : ∀ a, cv 14 a = a % 65536 := fun _ => rfl
  have d15 : ∀ a, cv 15 a = a % 4294967296 := fun _ => rfl
  rcases conv_cases k h (by omega) with rfl | rfl | rfl | rfl | rfl | rfl <;> rcases conv_cases l (by omega) g with rfl | rfl | rfl | rfl | rfl | rfl <;>
    first
    | (exfalso; omega)
    | (simp only [d10, d11, d12, d13, d14, d15]; omega)
theorem conv_op (k a : Int) (w : World) (h : 10 ≤ k) (g : k ≤ 15) : Calls Try.prog 7 #[.int .i64 k, .int .i64 a, .int .i64 0] w fun e w' => e = .returned (.tuple #[.int .i64 (cv k a), .int .i64 0]) ∧ w' = w := by
  rcases conv_cases k h g with rfl | rfl | rfl | rfl | rfl | rfl
  · rw [cv10]; exact i8_any a 0 w
  · rw [cv11]; exact i16_any a 0 w
  · rw [cv12]; exact i32_any a 0 w
  · rw [cv13]; exact u8_any a 0 w
  · rw [cv14]; exact u16_any a 0 w
  · rw [cv15]; exact u32_any a 0 w
theorem conv_fn (k a : Int) (w : World) (h : 10 ≤ k) (g : k ≤ 15) : Calls Try.prog 16 #[.int .i64 k, .int .i64 a] w fun e w' => e = .returned (.int .i64 (cv k a)) ∧ w' = w := by
  rcases conv_cases k h g with rfl | rfl | rfl | rfl | rfl | rfl
  · rw [cv10]; go_enter Try.func16, Try.ntmps16; go_wp2; go_ret; exact ⟨rfl, rfl⟩
  · rw [cv11]; go_enter Try.func16, Try.ntmps16; go_wp2; go_ret; exact ⟨rfl, rfl⟩
  · rw [cv12]; go_enter Try.func16, Try.ntmps16; go_wp2; go_ret; exact ⟨rfl, rfl⟩
  · rw [cv13]; go_enter Try.func16, Try.ntmps16; go_wp2; go_ret; exact ⟨rfl, rfl⟩
  · rw [cv14]; go_enter Try.func16, Try.ntmps16; go_wp2; go_ret; exact ⟨rfl, rfl⟩
  · rw [cv15]; go_enter Try.func16, Try.ntmps16; go_wp2; go_ret; exact ⟨rfl, rfl⟩
end Go.Proofs.Ytecimplpfghikab.word
