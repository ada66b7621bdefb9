/- Contract of math/bits.Mul64 and of package word's Wide. -/
import Derived.Test.YtecimplpfghikabRows
import Derived.Test.YtecimplpfghikabBits
import Derived.Laws.MathBits
import Derived.Lib.Mul64
import Derived.WalkKit
import Derived.ProofKit
import Derived.OpenShut
import Derived.WalkSpells
import Derived.WalkLawsBesides
namespace Go.Proofs.Ytecimplpfghikab.word
open Go.ChangeShapes Go.WideShapes Go.ChangeAt Go.RowKit
open wrapped
set_option linter.unusedVariables false
theorem mul64_any (x y : Int) (hx0 : 0 ≤ x) (hx : x < 18446744073709551616) (hy0 : 0 ≤ y) (hy : y < 18446744073709551616) (w : World) : Calls Try.prog 32 #[.int .u64 x, .int .u64 y] w fun e w' => e = .returned (.tuple #[.int .u64 (x * y / 18446744073709551616), .int .u64 (x * y % 18446744073709551616)]) ∧ w' = w := by
  have e1 := and_low32 x hx0 hx
  have e2 := and_low32 y hy0 hy
  go_enter Try.func32, Try.ntmps32
  go_wp2
  go_ret2
  refine ⟨ret_two ?_ ?_, rfl⟩
  · have e3 := mul64_arith x y hx0 hx hy0 hy
    simp only [IntKind.wrap_u64]
    rw [and_low32 _ (by omega) (by omega)]
    exact e3
  · rw [IntKind.wrap_u64]
theorem mul64_as (a b : Int) (w : World) : Calls Try.prog 32 #[.int .u64 (IntKind.u64.wrap a), .int .u64 (IntKind.u64.wrap b)] w fun e w' => e = .returned (.tuple #[.int .u64 ((a % 18446744073709551616) * (b % 18446744073709551616) / 18446744073709551616), .int .u64 (a * b % 18446744073709551616)]) ∧ w' = w := by
  rw [IntKind.wrap_u64, IntKind.wrap_u64]
  have h := mul64_any (a % 18446744073709551616) (b % 18446744073709551616) (by omega) (by omega) (by omega) (by omega) w
  rw [← Int.mul_emod] at h
  exact h
theorem mul64_nm (x y a b H L : Int) (w : World) (hx : x = a % 18446744073709551616) (hy : y = b % 18446744073709551616) (h : Hid ((a % 18446744073709551616) * (b % 18446744073709551616) / 18446744073709551616 = H)) (g : Hid (a * b % 18446744073709551616 = L)) : Calls Try.prog 32 #[.int .u64 x, .int .u64 y] w fun e w' => e = .returned (.tuple #[.int .u64 H, .int .u64 L]) ∧ w' = w := by
  have h1 := mul64_as a b w
  rw [IntKind.wrap_u64, IntKind.wrap_u64, ← hx, ← hy] at h1
  rw [← hx, ← hy] at h
  exact h1.mono fun e w' ⟨h1, h2⟩ => ⟨by rw [h1, h.out, g.out], h2⟩
set_option maxHeartbeats 1000000 in
theorem wide_any (a b : Int) (la : -9223372036854775808 ≤ a) (ha : a ≤ 9223372036854775807) (lb : -9223372036854775808 ≤ b) (hb : b ≤ 9223372036854775807) (w : World) :
    Calls Try.prog 21 #[.int .i64 a, .int .i64 b] w fun e w' => e = .returned (.tuple #[.int .i64 (a * b / 18446744073709551616), .int .u64 (a * b % 18446744073709551616)]) ∧ w' = w := by
  have hp := wide_high a b la ha lb hb
  have hr := wide_range a b la ha lb hb
  obtain ⟨H, hH⟩ : ∃ H, Hid ((a % 18446744073709551616) * (b % 18446744073709551616) / 18446744073709551616 = H) := ⟨_, rfl⟩
  obtain ⟨L, hL⟩ : ∃ L, Hid (a * b % 18446744073709551616 = L) := ⟨_, rfl⟩
  obtain ⟨q, hq⟩ : ∃ q, Hid (a * b / 18446744073709551616 = q) := ⟨_, rfl⟩
  rw [hH.out, hq.out] at hp
  rw [hq.out] at hr
  rw [hq.out, hL.out]
  obtain ⟨r1, r2⟩ := hr
  have hpp : Hid (H = q + (if a < 0 then b else 0) + (if b < 0 then a else 0) + (if a < 0 then (if b < 0 then 18446744073709551616 else 0) else 0)) := hp
  clear hp
  by_cases na : a < 0 <;> by_cases nb : b < 0
  · have c := mul64_nm (IntKind.u64.wrap a) (IntKind.u64.wrap b) a b H L w (IntKind.wrap_u64 a) (IntKind.wrap_u64 b) hH hL
    have hp := hpp.out
    rw [if_pos na, if_pos nb, if_pos na, if_pos nb] at hp
    have hq2 : Hid (H = _) := hp
    clear hp hpp
    go_enter Try.func21, Try.ntmps21
    go_wp2_with (go_at_call 32; with_reducible refine c.mono ?_; rintro e w' ⟨rfl, rfl⟩)
    go_ret2
    refine ⟨ret_two ?_ rfl, rfl⟩
    have hp := hq2.out
    try simp only [IntKind.wrap_u64]
    unfold wrap64
    omega
  · have c := mul64_nm (IntKind.u64.wrap a) b a b H L w (IntKind.wrap_u64 a) ((Int.emod_eq_of_lt (by omega) (by omega)).symm) hH hL
    have hp := hpp.out
    rw [if_pos na, if_neg nb, if_pos na, if_neg nb] at hp
    have hq2 : Hid (H = _) := hp
    clear hp hpp
    go_enter Try.func21, Try.ntmps21
    go_wp2_with (go_at_call 32; with_reducible refine c.mono ?_; rintro e w' ⟨rfl, rfl⟩)
    go_ret2
    refine ⟨ret_two ?_ rfl, rfl⟩
    have hp := hq2.out
    try simp only [IntKind.wrap_u64]
    unfold wrap64
    omega
  · have c := mul64_nm a (IntKind.u64.wrap b) a b H L w ((Int.emod_eq_of_lt (by omega) (by omega)).symm) (IntKind.wrap_u64 b) hH hL
    have hp := hpp.out
    rw [if_neg na, if_pos nb, if_neg na] at hp
    have hq2 : Hid (H = _) := hp
    clear hp hpp
    go_enter Try.func21, Try.ntmps21
    go_wp2_with (go_at_call 32; with_reducible refine c.mono ?_; rintro e w' ⟨rfl, rfl⟩)
    go_ret2
    refine ⟨ret_two ?_ rfl, rfl⟩
    have hp := hq2.out
    try simp only [IntKind.wrap_u64]
    unfold wrap64
    omega
  · have c := mul64_nm a b a b H L w ((Int.emod_eq_of_lt (by omega) (by omega)).symm) ((Int.emod_eq_of_lt (by omega) (by omega)).symm) hH hL
    have hp := hpp.out
    rw [if_neg na, if_neg nb, if_neg na] at hp
    have hq2 : Hid (H = _) := hp
    clear hp hpp
    go_enter Try.func21, Try.ntmps21
    go_wp2_with (go_at_call 32; with_reducible refine c.mono ?_; rintro e w' ⟨rfl, rfl⟩)
    go_ret2
    refine ⟨ret_two ?_ rfl, rfl⟩
    have hp := hq2.out
    try simp only [IntKind.wrap_u64]
    unfold wrap64
    omega
theorem high_op (a b : Int) (la : -9223372036854775808 ≤ a) (ha : a ≤ 9223372036854775807) (lb : -9223372036854775808 ≤ b) (hb : b ≤ 9223372036854775807) (w : World) :
    Calls Try.prog 7 #[.int .i64 36, .int .i64 a, .int .i64 b] w fun e w' => e = .returned (.tuple #[.int .i64 (a * b / 18446744073709551616), .int .i64 0]) ∧ w' = w := by
  go_enter Try.func7, Try.ntmps7
  go_wp2_with (first | (go_at_call 21; refine (wide_any _ _ la ha lb hb _).mono ?_; rintro e w' ⟨rfl, rfl⟩) | go_in)
  go_ret2
  exact ⟨rfl, rfl⟩
end Go.Proofs.Ytecimplpfghikab.word
