/- What the document's own answer to a whole product makes (scarabref02.Wide): the high word and the low one of a times b. -/
import Derived.Test.YtofeohhnfnnifaaDoorRows
import Derived.Test.YtofeohhnfnnifaaDoorM17
import Derived.Test.YtofeohhnfnnifaaDoorM18
import Derived.Test.YtofeohhnfnnifaaDoorM20
namespace Go.Proofs.YtofeohhnfnnifaaDoor.word
open Go.ChangeShapes Go.WideShapes Go.ChangeAt Go.RowKit
open wrapped
set_option linter.unusedVariables false
/-- The high word x and the low one y, when the bits of b from j on have been gone through. -/
def Inv (a b : Int) (j : Nat) (x y : Int) : Prop := ∃ V : Int, (j = 64 ∧ V = 0 ∨ j ≤ 63 ∧ V = a * (b / 2 ^ j)) ∧ x = V / 18446744073709551616 ∧ y = V % 18446744073709551616
theorem half (b : Int) (m : Nat) : b / 2 ^ m = 2 * (b / 2 ^ (m + 1)) + bitOf b m := by
  unfold bitOf
  rw [Int.pow_succ, ← Int.ediv_ediv_of_nonneg (Int.le_of_lt (pos2 m))]; omega
theorem Inv.step {a b : Int} {m : Nat} {x y X Y : Int} (lb : -9223372036854775808 ≤ b) (hb : b ≤ 9223372036854775807) (hm : m ≤ 63) (h : Inv a b (m + 1) x y) (c : Int) (hc : c = if m = 63 then -(a * bitOf b m) else a * bitOf b m)
    (e : X * 18446744073709551616 + Y = 2 * (x * 18446744073709551616 + y) + c) (h0 : 0 ≤ Y) (h1 : Y < 18446744073709551616) : Inv a b m X Y := by
  obtain ⟨V, hV, rfl, rfl⟩ := h
  refine ⟨a * (b / 2 ^ m), .inr ⟨hm, rfl⟩, ?_⟩
  have e2 : a * (b / 2 ^ m) = 2 * V + c := by
    rcases hV with ⟨h64, rfl⟩ | ⟨h63, rfl⟩
    · have : m = 63 := by omega
      subst this
      rw [if_pos rfl] at hc
      have e3 : b / 2 ^ 63 = -bitOf b 63 := by
        unfold bitOf
        rw [show (2 : Int) ^ 63 = 9223372036854775808 from by decide]
        omega
      rw [e3, hc, Int.mul_neg]; omega
    · rw [if_neg (by omega)] at hc
      rw [half b m, Int.mul_add, hc, Int.mul_left_comm]
  rw [e2]
  omega
theorem Inv.bd {a b : Int} {m : Nat} {x y : Int} (h : Inv a b (m + 1) x y) (la : -9223372036854775808 ≤ a) (ha : a ≤ 9223372036854775807) (lb : -9223372036854775808 ≤ b) (hb : b ≤ 9223372036854775807) :
    -2305843009213693952 ≤ x ∧ x ≤ 2305843009213693952 ∧ 0 ≤ y ∧ y < 18446744073709551616 := by
  obtain ⟨V, hV, rfl, rfl⟩ := h
  have h2 : -42535295865117307932921825928971026432 ≤ V ∧ V ≤ 42535295865117307932921825928971026432 := by
    rcases hV with ⟨_, rfl⟩ | ⟨_, rfl⟩
    · omega
    · have p := pos2 m
      have e : b / 2 ^ (m + 1) = b / 2 / 2 ^ m := by rw [Nat.add_comm, Int.pow_add, Int.ediv_ediv_of_nonneg (by omega)]; rfl
      rw [e]
      have g1 : b / 2 ≤ 4611686018427387903 := by omega
      have g2 : -4611686018427387904 ≤ b / 2 := by omega
      generalize b / 2 = c at g1 g2
      have q1 : c / 2 ^ m ≤ 4611686018427387903 := by
        have : c / 2 ^ m ≤ 4611686018427387903 / 2 ^ m := Int.ediv_le_ediv p g1
        have h3 : (4611686018427387903 : Int) / 2 ^ m ≤ 4611686018427387903 := Int.ediv_le_self _ (by omega)
        omega
      have q2 : -4611686018427387904 ≤ c / 2 ^ m := by
        refine (Int.le_ediv_iff_mul_le p).2 ?_
        have h3 : (1 : Int) ≤ 2 ^ m := by omega
        have h4 : (4611686018427387904 : Int) * 1 ≤ 4611686018427387904 * 2 ^ m := Int.mul_le_mul_of_nonneg_left h3 (by omega)
        rw [Int.neg_mul]; omega
      have h5 := prod_range a (c / 2 ^ m * 2) 9223372036854775808 (by omega) (by omega) (by omega) (by omega)
      rw [← Int.mul_assoc] at h5
      omega
  omega
theorem uwrap_lo (x : Int) : 0 ≤ IntKind.u64.wrap x := by rw [IntKind.wrap_u64]; omega
theorem uwrap_hi (x : Int) : IntKind.u64.wrap x < 18446744073709551616 := by rw [IntKind.wrap_u64]; omega
theorem lemA (x y : Int) (b1 : -2305843009213693952 ≤ x) (b2 : x ≤ 2305843009213693952) (b3 : 0 ≤ y) (b4 : y < 18446744073709551616) : wrap64 (wrap64 (x * 2) + y / 9223372036854775808) * 18446744073709551616 + IntKind.u64.wrap (y * 2) = 2 * (x * 18446744073709551616 + y) + 0 := by
  rw [IntKind.wrap_u64]; unfold wrap64; omega
theorem lemB1 (x y a : Int) (b1 : -2305843009213693952 ≤ x) (b2 : x ≤ 2305843009213693952) (b3 : 0 ≤ y) (b4 : y < 18446744073709551616) (la : -9223372036854775808 ≤ a) (ha : a ≤ 9223372036854775807) (h : IntKind.u64.wrap (y * 2) < IntKind.u64.wrap a) : wrap64 (wrap64 (wrap64 (wrap64 (x * 2) + y / 9223372036854775808) - a / 9223372036854775808) - 1) * 18446744073709551616 + IntKind.u64.wrap (IntKind.u64.wrap (y * 2) - IntKind.u64.wrap a) = 2 * (x * 18446744073709551616 + y) + (-a) := by
  have f1 : y * 2 % 18446744073709551616 = y * 2 - 18446744073709551616 * (y / 9223372036854775808) := by omega
  have f2 : a % 18446744073709551616 = a - 18446744073709551616 * (a / 9223372036854775808) := by omega
  have g1 : 0 ≤ y / 9223372036854775808 ∧ y / 9223372036854775808 ≤ 1 := by omega
  have g2 : -1 ≤ a / 9223372036854775808 ∧ a / 9223372036854775808 ≤ 0 := by omega
  have g3 : 0 ≤ y * 2 % 18446744073709551616 ∧ y * 2 % 18446744073709551616 < 18446744073709551616 := by omega
  have g4 : 0 ≤ a % 18446744073709551616 ∧ a % 18446744073709551616 < 18446744073709551616 := by omega
  simp only [IntKind.wrap_u64] at *
  generalize y * 2 % 18446744073709551616 = u at *
  generalize a % 18446744073709551616 = v at *
  generalize y / 9223372036854775808 = c at *
  generalize a / 9223372036854775808 = d at *
  rw [wrap64_id (x * 2) (by omega) (by omega), wrap64_id (x * 2 + c) (by omega) (by omega)]
  rw [wrap64_id (x * 2 + c - d) (by omega) (by omega), wrap64_id (x * 2 + c - d - 1) (by omega) (by omega)]
  omega
theorem lemB2 (x y a : Int) (b1 : -2305843009213693952 ≤ x) (b2 : x ≤ 2305843009213693952) (b3 : 0 ≤ y) (b4 : y < 18446744073709551616) (la : -9223372036854775808 ≤ a) (ha : a ≤ 9223372036854775807) (h : IntKind.u64.wrap a ≤ IntKind.u64.wrap (y * 2)) : wrap64 (wrap64 (wrap64 (x * 2) + y / 9223372036854775808) - a / 9223372036854775808) * 18446744073709551616 + IntKind.u64.wrap (IntKind.u64.wrap (y * 2) - IntKind.u64.wrap a) = 2 * (x * 18446744073709551616 + y) + (-a) := by
  have f1 : y * 2 % 18446744073709551616 = y * 2 - 18446744073709551616 * (y / 9223372036854775808) := by omega
  have f2 : a % 18446744073709551616 = a - 18446744073709551616 * (a / 9223372036854775808) := by omega
  have g1 : 0 ≤ y / 9223372036854775808 ∧ y / 9223372036854775808 ≤ 1 := by omega
  have g2 : -1 ≤ a / 9223372036854775808 ∧ a / 9223372036854775808 ≤ 0 := by omega
  have g3 : 0 ≤ y * 2 % 18446744073709551616 ∧ y * 2 % 18446744073709551616 < 18446744073709551616 := by omega
  have g4 : 0 ≤ a % 18446744073709551616 ∧ a % 18446744073709551616 < 18446744073709551616 := by omega
  simp only [IntKind.wrap_u64] at *
  generalize y * 2 % 18446744073709551616 = u at *
  generalize a % 18446744073709551616 = v at *
  generalize y / 9223372036854775808 = c at *
  generalize a / 9223372036854775808 = d at *
  rw [wrap64_id (x * 2) (by omega) (by omega), wrap64_id (x * 2 + c) (by omega) (by omega)]
  rw [wrap64_id (x * 2 + c - d) (by omega) (by omega)]
  omega
theorem lemC1 (x y a : Int) (b1 : -2305843009213693952 ≤ x) (b2 : x ≤ 2305843009213693952) (b3 : 0 ≤ y) (b4 : y < 18446744073709551616) (la : -9223372036854775808 ≤ a) (ha : a ≤ 9223372036854775807) (h : IntKind.u64.wrap (IntKind.u64.wrap (y * 2) + IntKind.u64.wrap a) < IntKind.u64.wrap (y * 2)) : wrap64 (wrap64 (wrap64 (wrap64 (x * 2) + y / 9223372036854775808) + a / 9223372036854775808) + 1) * 18446744073709551616 + IntKind.u64.wrap (IntKind.u64.wrap (y * 2) + IntKind.u64.wrap a) = 2 * (x * 18446744073709551616 + y) + a := by
  have f1 : y * 2 % 18446744073709551616 = y * 2 - 18446744073709551616 * (y / 9223372036854775808) := by omega
  have f2 : a % 18446744073709551616 = a - 18446744073709551616 * (a / 9223372036854775808) := by omega
  have g1 : 0 ≤ y / 9223372036854775808 ∧ y / 9223372036854775808 ≤ 1 := by omega
  have g2 : -1 ≤ a / 9223372036854775808 ∧ a / 9223372036854775808 ≤ 0 := by omega
  have g3 : 0 ≤ y * 2 % 18446744073709551616 ∧ y * 2 % 18446744073709551616 < 18446744073709551616 := by omega
  have g4 : 0 ≤ a % 18446744073709551616 ∧ a % 18446744073709551616 < 18446744073709551616 := by omega
  simp only [IntKind.wrap_u64] at *
  generalize y * 2 % 18446744073709551616 = u at *
  generalize a % 18446744073709551616 = v at *
  generalize y / 9223372036854775808 = c at *
  generalize a / 9223372036854775808 = d at *
  rw [wrap64_id (x * 2) (by omega) (by omega), wrap64_id (x * 2 + c) (by omega) (by omega)]
  rw [wrap64_id (x * 2 + c + d) (by omega) (by omega), wrap64_id (x * 2 + c + d + 1) (by omega) (by omega)]
  omega
theorem lemC2 (x y a : Int) (b1 : -2305843009213693952 ≤ x) (b2 : x ≤ 2305843009213693952) (b3 : 0 ≤ y) (b4 : y < 18446744073709551616) (la : -9223372036854775808 ≤ a) (ha : a ≤ 9223372036854775807) (h : IntKind.u64.wrap (y * 2) ≤ IntKind.u64.wrap (IntKind.u64.wrap (y * 2) + IntKind.u64.wrap a)) : wrap64 (wrap64 (wrap64 (x * 2) + y / 9223372036854775808) + a / 9223372036854775808) * 18446744073709551616 + IntKind.u64.wrap (IntKind.u64.wrap (y * 2) + IntKind.u64.wrap a) = 2 * (x * 18446744073709551616 + y) + a := by
  have f1 : y * 2 % 18446744073709551616 = y * 2 - 18446744073709551616 * (y / 9223372036854775808) := by omega
  have f2 : a % 18446744073709551616 = a - 18446744073709551616 * (a / 9223372036854775808) := by omega
  have g1 : 0 ≤ y / 9223372036854775808 ∧ y / 9223372036854775808 ≤ 1 := by omega
  have g2 : -1 ≤ a / 9223372036854775808 ∧ a / 9223372036854775808 ≤ 0 := by omega
  have g3 : 0 ≤ y * 2 % 18446744073709551616 ∧ y * 2 % 18446744073709551616 < 18446744073709551616 := by omega
  have g4 : 0 ≤ a % 18446744073709551616 ∧ a % 18446744073709551616 < 18446744073709551616 := by omega
  simp only [IntKind.wrap_u64] at *
  generalize y * 2 % 18446744073709551616 = u at *
  generalize a % 18446744073709551616 = v at *
  generalize y / 9223372036854775808 = c at *
  generalize a / 9223372036854775808 = d at *
  rw [wrap64_id (x * 2) (by omega) (by omega), wrap64_id (x * 2 + c) (by omega) (by omega)]
  rw [wrap64_id (x * 2 + c + d) (by omega) (by omega)]
  omega
theorem lemAn (x y : Int) (b1 : -2305843009213693952 ≤ x) (b2 : x ≤ 2305843009213693952) (b3 : 0 ≤ y) (b4 : y < 18446744073709551616) : ((x * 2) + y / 9223372036854775808) * 18446744073709551616 + IntKind.u64.wrap (y * 2) = 2 * (x * 18446744073709551616 + y) + 0 := by
  rw [IntKind.wrap_u64]; omega
theorem lemB1n (x y a : Int) (b1 : -2305843009213693952 ≤ x) (b2 : x ≤ 2305843009213693952) (b3 : 0 ≤ y) (b4 : y < 18446744073709551616) (la : -9223372036854775808 ≤ a) (ha : a ≤ 9223372036854775807) (h : IntKind.u64.wrap (y * 2) < IntKind.u64.wrap a) : ((((x * 2) + y / 9223372036854775808) - a / 9223372036854775808) - 1) * 18446744073709551616 + IntKind.u64.wrap (IntKind.u64.wrap (y * 2) - IntKind.u64.wrap a) = 2 * (x * 18446744073709551616 + y) + (-a) := by
  have f1 : y * 2 % 18446744073709551616 = y * 2 - 18446744073709551616 * (y / 9223372036854775808) := by omega
  have f2 : a % 18446744073709551616 = a - 18446744073709551616 * (a / 9223372036854775808) := by omega
  have g1 : 0 ≤ y / 9223372036854775808 ∧ y / 9223372036854775808 ≤ 1 := by omega
  have g2 : -1 ≤ a / 9223372036854775808 ∧ a / 9223372036854775808 ≤ 0 := by omega
  have g3 : 0 ≤ y * 2 % 18446744073709551616 ∧ y * 2 % 18446744073709551616 < 18446744073709551616 := by omega
  have g4 : 0 ≤ a % 18446744073709551616 ∧ a % 18446744073709551616 < 18446744073709551616 := by omega
  simp only [IntKind.wrap_u64] at *
  generalize y * 2 % 18446744073709551616 = u at *
  generalize a % 18446744073709551616 = v at *
  generalize y / 9223372036854775808 = c at *
  generalize a / 9223372036854775808 = d at *
  omega
theorem lemB2n (x y a : Int) (b1 : -2305843009213693952 ≤ x) (b2 : x ≤ 2305843009213693952) (b3 : 0 ≤ y) (b4 : y < 18446744073709551616) (la : -9223372036854775808 ≤ a) (ha : a ≤ 9223372036854775807) (h : IntKind.u64.wrap a ≤ IntKind.u64.wrap (y * 2)) : (((x * 2) + y / 9223372036854775808) - a / 9223372036854775808) * 18446744073709551616 + IntKind.u64.wrap (IntKind.u64.wrap (y * 2) - IntKind.u64.wrap a) = 2 * (x * 18446744073709551616 + y) + (-a) := by
  have f1 : y * 2 % 18446744073709551616 = y * 2 - 18446744073709551616 * (y / 9223372036854775808) := by omega
  have f2 : a % 18446744073709551616 = a - 18446744073709551616 * (a / 9223372036854775808) := by omega
  have g1 : 0 ≤ y / 9223372036854775808 ∧ y / 9223372036854775808 ≤ 1 := by omega
  have g2 : -1 ≤ a / 9223372036854775808 ∧ a / 9223372036854775808 ≤ 0 := by omega
  have g3 : 0 ≤ y * 2 % 18446744073709551616 ∧ y * 2 % 18446744073709551616 < 18446744073709551616 := by omega
  have g4 : 0 ≤ a % 18446744073709551616 ∧ a % 18446744073709551616 < 18446744073709551616 := by omega
  simp only [IntKind.wrap_u64] at *
  generalize y * 2 % 18446744073709551616 = u at *
  generalize a % 18446744073709551616 = v at *
  generalize y / 9223372036854775808 = c at *
  generalize a / 9223372036854775808 = d at *
  omega
theorem lemC1n (x y a : Int) (b1 : -2305843009213693952 ≤ x) (b2 : x ≤ 2305843009213693952) (b3 : 0 ≤ y) (b4 : y < 18446744073709551616) (la : -9223372036854775808 ≤ a) (ha : a ≤ 9223372036854775807) (h : IntKind.u64.wrap (IntKind.u64.wrap (y * 2) + IntKind.u64.wrap a) < IntKind.u64.wrap (y * 2)) : ((((x * 2) + y / 9223372036854775808) + a / 9223372036854775808) + 1) * 18446744073709551616 + IntKind.u64.wrap (IntKind.u64.wrap (y * 2) + IntKind.u64.wrap a) = 2 * (x * 18446744073709551616 + y) + a := by
  have f1 : y * 2 % 18446744073709551616 = y * 2 - 18446744073709551616 * (y / 9223372036854775808) := by omega
  have f2 : a % 18446744073709551616 = a - 18446744073709551616 * (a / 9223372036854775808) := by omega
  have g1 : 0 ≤ y / 9223372036854775808 ∧ y / 9223372036854775808 ≤ 1 := by omega
  have g2 : -1 ≤ a / 9223372036854775808 ∧ a / 9223372036854775808 ≤ 0 := by omega
  have g3 : 0 ≤ y * 2 % 18446744073709551616 ∧ y * 2 % 18446744073709551616 < 18446744073709551616 := by omega
  have g4 : 0 ≤ a % 18446744073709551616 ∧ a % 18446744073709551616 < 18446744073709551616 := by omega
  simp only [IntKind.wrap_u64] at *
  generalize y * 2 % 18446744073709551616 = u at *
  generalize a % 18446744073709551616 = v at *
  generalize y / 9223372036854775808 = c at *
  generalize a / 9223372036854775808 = d at *
  omega
theorem lemC2n (x y a : Int) (b1 : -2305843009213693952 ≤ x) (b2 : x ≤ 2305843009213693952) (b3 : 0 ≤ y) (b4 : y < 18446744073709551616) (la : -9223372036854775808 ≤ a) (ha : a ≤ 9223372036854775807) (h : IntKind.u64.wrap (y * 2) ≤ IntKind.u64.wrap (IntKind.u64.wrap (y * 2) + IntKind.u64.wrap a)) : (((x * 2) + y / 9223372036854775808) + a / 9223372036854775808) * 18446744073709551616 + IntKind.u64.wrap (IntKind.u64.wrap (y * 2) + IntKind.u64.wrap a) = 2 * (x * 18446744073709551616 + y) + a := by
  have f1 : y * 2 % 18446744073709551616 = y * 2 - 18446744073709551616 * (y / 9223372036854775808) := by omega
  have f2 : a % 18446744073709551616 = a - 18446744073709551616 * (a / 9223372036854775808) := by omega
  have g1 : 0 ≤ y / 9223372036854775808 ∧ y / 9223372036854775808 ≤ 1 := by omega
  have g2 : -1 ≤ a / 9223372036854775808 ∧ a / 9223372036854775808 ≤ 0 := by omega
  have g3 : 0 ≤ y * 2 % 18446744073709551616 ∧ y * 2 % 18446744073709551616 < 18446744073709551616 := by omega
  have g4 : 0 ≤ a % 18446744073709551616 ∧ a % 18446744073709551616 < 18446744073709551616 := by omega
  simp only [IntKind.wrap_u64] at *
  generalize y * 2 % 18446744073709551616 = u at *
  generalize a % 18446744073709551616 = v at *
  generalize y / 9223372036854775808 = c at *
  generalize a / 9223372036854775808 = d at *
  omega
set_option maxHeartbeats 2000000 in
theorem refwide_any (a b : Int) (la : -9223372036854775808 ≤ a) (ha : a ≤ 9223372036854775807) (lb : -9223372036854775808 ≤ b) (hb : b ≤ 9223372036854775807) (w : World) :
    Calls Tryd.prog 79 #[.int .i64 a, .int .i64 b] w fun e w' => e = .returned (.tuple #[.int .i64 (a * b / 18446744073709551616), .int .u64 (a * b % 18446744073709551616)]) ∧ w' = w := by
  go_enter Tryd.func79, Tryd.ntmps79
  go_wp2
  go_loop [6, 7, 8] (fun h l i => ∃ (j : Nat) (x y : Int), j ≤ 64 ∧ i = .int .i64 ((j : Int) - 1) ∧ h = .int .i64 x ∧ l = .int .u64 y ∧ Inv a b j x y) (fun _ _ i => (intOf i + 1).toNat)
  case atStart => exact ⟨64, 0, 0, Nat.le_refl _, rfl, rfl, rfl, 0, .inl ⟨rfl, rfl⟩, rfl, rfl⟩
  case round =>
    obtain ⟨j, x, y, hj, rfl, rfl, rfl, hI⟩ := hrel
    rcases Nat.eq_zero_or_eq_succ_pred j with h0 | h0
    · subst h0
      go_wp2
      go_ret2
      obtain ⟨V, hV, rfl, rfl⟩ := hI
      have hv : V = a * b := by
        rcases hV with ⟨h, _⟩ | ⟨_, h⟩
        · omega
        · rw [h]; simp
      exact ⟨ret_two (by rw [hv]) (by rw [hv]), rfl⟩
    · generalize j.pred = m at h0
      subst h0
      have hc : (((m.succ : Nat) : Int) - 1) = (m : Int) := by omega
      rw [hc]
      clear hc
      have hm : m < 64 := by omega
      clear hj
      have hbb := bitOf_01 b m
      obtain ⟨b1, b2, b3, b4⟩ := hI.bd la ha lb hb
      have HI : Hid (Inv a b (m + 1) x y) := hI
      clear hI
      by_cases h1 : bitOf b m = 0
      · have h1' : (bitOf b m == 0) = true := by simpa using h1
        have hz : Hid (bitOf b m = 0) := h1
        clear h1
        go_wp2_with (go_at_call 75; refine (refbit_any _ _ hm _).mono ?_; rintro e w' ⟨rfl, rfl⟩)
        go_round
        case rel => exact ⟨m, _, _, by omega, by go_num, rfl, rfl, HI.out.step lb hb (by omega) 0 (by rw [hz.out]; simp) (by first | exact lemA x y b1 b2 b3 b4 | exact lemAn x y b1 b2 b3 b4) (uwrap_lo _) (uwrap_hi _)⟩
        case measure => simp [intOf]
      · have h1' : (bitOf b m == 0) = false := by simpa using h1
        have hz : Hid (bitOf b m = 1) := by show bitOf b m = 1; omega
        clear h1
        by_cases h63 : m = 63
        · subst h63
          go_wp2_with (go_at_call 75; refine (refbit_any _ _ hm _).mono ?_; rintro e w' ⟨rfl, rfl⟩)
          all_goals
            go_round
            case rel => exact ⟨63, _, _, by omega, by go_num, rfl, rfl, HI.out.step lb hb (by omega) (-a) (by rw [hz.out]; simp) (by first | exact lemB1 x y a b1 b2 b3 b4 la ha (by assumption) | exact lemB2 x y a b1 b2 b3 b4 la ha (by assumption) | exact lemB1n x y a b1 b2 b3 b4 la ha (by assumption) | exact lemB2n x y a b1 b2 b3 b4 la ha (by assumption)) (uwrap_lo _) (uwrap_hi _)⟩
            case measure => simp [intOf]
        · have h63' : ((m : Int) == 63) = false := by simp; omega
          go_wp2_with (go_at_call 75; refine (refbit_any _ _ hm _).mono ?_; rintro e w' ⟨rfl, rfl⟩)
          all_goals
            go_round
            case rel => exact ⟨m, _, _, by omega, by go_num, rfl, rfl, HI.out.step lb hb (by omega) a (by rw [hz.out]; rw [if_neg h63]; simp) (by first | exact lemC1 x y a b1 b2 b3 b4 la ha (by assumption) | exact lemC2 x y a b1 b2 b3 b4 la ha (by assumption) | exact lemC1n x y a b1 b2 b3 b4 la ha (by assumption) | exact lemC2n x y a b1 b2 b3 b4 la ha (by assumption)) (uwrap_lo _) (uwrap_hi _)⟩
            case measure => simp [intOf]
end Go.Proofs.YtofeohhnfnnifaaDoor.word
/- The contracts of the document's own operations: of one operand (1 to 9), bit by bit, shifts, turns, comparisons. -/
namespace Go.Proofs.YtofeohhnfnnifaaDoor.word
open Go.ChangeShapes Go.WideShapes Go.ChangeAt Go.RowKit
open wrapped
set_option linter.unusedVariables false
theorem refyes_any (b : Bool) (w : World) (r : Int) (hr : (if b then 1 else 0 : Int) = r) : Calls Tryd.prog 77 #[.bool b] w fun e w' => e = .returned (.int .i64 r) ∧ w' = w := by
  subst hr
  cases b <;> (go_enter Tryd.func77, Tryd.ntmps77; go_wp2; go_ret; exact ⟨rfl, rfl⟩)
theorem refone1 (a : Int) (w : World) : Calls Tryd.prog 57 #[.int .i64 1, .int .i64 a] w fun e w' => e = .returned (.int .i64 (wrap64 (-a))) ∧ w' = w := by
  go_enter Tryd.func57, Tryd.ntmps57
  go_wp2
  go_ret
  exact ⟨rfl, rfl⟩
theorem refone2 (a : Int) (h : -9223372036854775808 ≤ a) (g : a ≤ 9223372036854775807) (w : World) : Calls Tryd.prog 57 #[.int .i64 2, .int .i64 a] w fun e w' => e = .returned (.int .i64 (bits .xor .i64 (-1) a)) ∧ w' = w := by
  rw [xor_not a h g]
  go_enter Tryd.func57, Tryd.ntmps57
  go_wp2
  go_ret
  exact ⟨ret_int (by first | rfl | omega | (unfold wrap64; omega)), rfl⟩
theorem refone3 (a : Int) (w : World) : Calls Tryd.prog 57 #[.int .i64 3, .int .i64 a] w fun e w' => e = .returned (.int .i64 (if a < 0 then wrap64 (-a) else a)) ∧ w' = w := by
  by_cases h : a < 0
  · rw [if_pos h]
    go_enter Tryd.func57, Tryd.ntmps57
    go_wp2
    go_ret
    exact ⟨rfl, rfl⟩
  · rw [if_neg h]
    go_enter Tryd.func57, Tryd.ntmps57
    go_wp2
    go_ret
    exact ⟨rfl, rfl⟩
theorem refone4 (a : Int) (w : World) : Calls Tryd.prog 57 #[.int .i64 4, .int .i64 a] w fun e w' => e = .returned (.int .i64 (onesN a 64)) ∧ w' = w := by
  go_enter Tryd.func57, Tryd.ntmps57
  go_wp2
  go_loop [5, 6] (fun n i => ∃ (k : Nat) (x : Int), k ≤ 64 ∧ i = .int .i64 k ∧ n = .int .i64 x ∧ 0 ≤ x ∧ x ≤ 64 ∧ Hid (x = onesN a k)) (fun _ i => 64 - (intOf i).toNat)
  case atStart => exact ⟨0, 0, Nat.zero_le _, rfl, rfl, by decide, by decide, rfl⟩
  case round =>
    obtain ⟨k, x, hk, rfl, rfl, x0, x1, hx⟩ := hrel
    by_cases hlt : k < 64
    · have hb := bitOf_01 a k
      have hbit := refbit_any a k hlt
      have hn := onesN_bd a (k + 1)
      have hs : onesN a (k + 1) = onesN a k + bitOf a k := rfl
      have hxs : Hid (x + bitOf a k = onesN a (k + 1)) := by show x + bitOf a k = _; rw [hs, hx.out]
      have hx2 : 0 ≤ x + bitOf a k ∧ x + bitOf a k ≤ 64 := by rw [hxs.out]; omega
      generalize bitOf a k = B at *
      clear hn hs hx
      go_wp2_with (go_at_call 75; with_reducible refine (hbit _).mono ?_; rintro e w' ⟨rfl, hw⟩; replace hw := hw.symm; subst hw)
      go_round
      case rel => exact ⟨k + 1, x + B, by omega, by go_num, rfl, hx2.1, hx2.2, hxs⟩
      case measure => simp [intOf]; omega
    · go_wp2
      go_ret
      have : k = 64 := by omega
      subst this
      exact ⟨ret_int hx.out, rfl⟩
theorem refone5 (a : Int) (w : World) : Calls Tryd.prog 57 #[.int .i64 5, .int .i64 a] w fun e w' => ∃ n : Nat, IsLead a n ∧ e = .returned (.int .i64 n) ∧ w' = w := by
  go_enter Tryd.func57, Tryd.ntmps57
  go_wp2
  go_loop [7, 8] (fun n i => ∃ k : Nat, k ≤ 64 ∧ i = .int .i64 (63 - (k : Int)) ∧ n = .int .i64 k ∧ Hid (∀ j, j < k → bitOf a (63 - j) = 0)) (fun n _ => 64 - (intOf n).toNat)
  case atStart => exact ⟨0, Nat.zero_le _, rfl, rfl, fun j hj => by omega⟩
  case round =>
    obtain ⟨k, hk, rfl, rfl, hx⟩ := hrel
    by_cases hlt : k < 64
    · have hbit := refbit_any a (63 - k) (by omega)
      rw [show ((63 - k : Nat) : Int) = 63 - (k : Int) by omega] at hbit
      have hb := bitOf_01 a (63 - k)
      obtain ⟨B, hB⟩ : ∃ B, Hid (bitOf a (63 - k) = B) := ⟨_, rfl⟩
      rw [hB.out] at hbit hb
      have hk0 : (0 : Int) ≤ 63 - (k : Int) := by omega
      rcases (by omega : B = 0 ∨ B = 1) with rfl | rfl
      · clear hb
        go_wp2_with (go_at_call 75; with_reducible refine (hbit _).mono ?_; rintro e w' ⟨rfl, hw⟩; replace hw := hw.symm; subst hw)
        go_round
        case rel => exact ⟨k + 1, by omega, by go_num, by go_num, fun j hj => by rcases Nat.lt_or_ge j k with h | h; exact hx.out j h; exact (show j = k by omega) ▸ hB.out⟩
        case measure => simp [intOf]; omega
      · clear hb
        go_wp2_with (go_at_call 75; with_reducible refine (hbit _).mono ?_; rintro e w' ⟨rfl, hw⟩; replace hw := hw.symm; subst hw)
        go_ret
        exact ⟨k, ⟨by omega, hx.out, fun _ => hB.out⟩, rfl, rfl⟩
    · have h64 : k = 64 := by omega
      subst h64
      go_wp2
      go_ret
      exact ⟨64, ⟨by omega, hx.out, fun h => by omega⟩, rfl, rfl⟩
/-- How many bits that are 0 a word ends with. -/
def IsTrail (a : Int) (n : Nat) : Prop := n ≤ 64 ∧ (∀ j, j < n → bitOf a j = 0) ∧ (n < 64 → bitOf a n = 1)
theorem trail_lead (a : Int) (n : Nat) (h : IsLead (wrap64 (flipN a 64)) n) : IsTrail a n := by
  obtain ⟨h1, h2, h3⟩ := h
  have e : ∀ j, j < 64 → bitOf (wrap64 (flipN a 64)) (63 - j) = bitOf a j := fun j hj => by
    rw [bitOf_wrap _ _ (by omega), bitOf_flip a 64 (63 - j) (by omega), show 64 - 1 - (63 - j) = j by omega]
  refine ⟨h1, fun j hj => ?_, fun hn => ?_⟩
  · rw [← e j (by omega)]; exact h2 j hj
  · rw [← e n hn]; exact h3 hn
theorem lead_one (a : Int) (n m : Nat) (h : IsLead a n) (g : IsLead a m) : n = m := by
  obtain ⟨h1, h2, h3⟩ := h
  obtain ⟨g1, g2, g3⟩ := g
  rcases Nat.lt_trichotomy n m with e | e | e
  · have := g2 n e; have := h3 (by omega); omega
  · exact e
  · have := h2 m e; have := g3 (by omega); omega
theorem trail_one (a : Int) (n m : Nat) (h : IsTrail a n) (g : IsTrail a m) : n = m := by
  obtain ⟨h1, h2, h3⟩ := h
  obtain ⟨g1, g2, g3⟩ := g
  rcases Nat.lt_trichotomy n m with e | e | e
  · have := g2 n e; have := h3 (by omega); omega
  · exact e
  · have := h2 m e; have := g3 (by omega); omega
theorem refone6 (a : Int) (w : World) : Calls Tryd.prog 57 #[.int .i64 6, .int .i64 a] w fun e w' => ∃ n : Nat, IsTrail a n ∧ e = .returned (.int .i64 n) ∧ w' = w := by
  go_enter Tryd.func57, Tryd.ntmps57
  go_wp2
  go_loop [9, 10] (fun n i => ∃ k : Nat, k ≤ 64 ∧ i = .int .i64 k ∧ n = .int .i64 k ∧ Hid (∀ j, j < k → bitOf a j = 0)) (fun n _ => 64 - (intOf n).toNat)
  case atStart => exact ⟨0, Nat.zero_le _, rfl, rfl, fun j hj => by omega⟩
  case round =>
    obtain ⟨k, hk, rfl, rfl, hx⟩ := hrel
    by_cases hlt : k < 64
    · have hbit := refbit_any a k (by omega)
      have hb := bitOf_01 a k
      obtain ⟨B, hB⟩ : ∃ B, Hid (bitOf a k = B) := ⟨_, rfl⟩
      rw [hB.out] at hbit hb
      rcases (by omega : B = 0 ∨ B = 1) with rfl | rfl
      · clear hb
        go_wp2_with (go_at_call 75; with_reducible refine (hbit _).mono ?_; rintro e w' ⟨rfl, hw⟩; replace hw := hw.symm; subst hw)
        go_round
        case rel => exact ⟨k + 1, by omega, by go_num, by go_num, fun j hj => by rcases Nat.lt_or_ge j k with h | h; exact hx.out j h; exact (show j = k by omega) ▸ hB.out⟩
        case measure => simp [intOf]; omega
      · clear hb
        go_wp2_with (go_at_call 75; with_reducible refine (hbit _).mono ?_; rintro e w' ⟨rfl, hw⟩; replace hw := hw.symm; subst hw)
        go_ret
        exact ⟨k, ⟨by omega, hx.out, fun _ => hB.out⟩, rfl, rfl⟩
    · have h64 : k = 64 := by omega
      subst h64
      go_wp2
      go_ret
      exact ⟨64, ⟨by omega, hx.out, fun h => by omega⟩, rfl, rfl⟩
theorem refone7 (a : Int) (w : World) : Calls Tryd.prog 57 #[.int .i64 7, .int .i64 a] w fun e w' => e = .returned (.int .i64 (wrap64 (flipN a 64))) ∧ w' = w := by
  have hv : ∀ k, 0 ≤ (fun k => bitOf a (63 - k)) k ∧ (fun k => bitOf a (63 - k)) k ≤ 1 := fun k => bitOf_01 a _
  have hfin : Hid (wrap64 (pb (fun k => bitOf a (63 - k)) 64) = wrap64 (flipN a 64)) :=
    pb_word _ hv _ (by unfold wrap64; omega) (by unfold wrap64; omega) fun k hk => by rw [bitOf_wrap _ k hk, bitOf_flip a 64 k hk]
  go_enter Tryd.func57, Tryd.ntmps57
  go_wp2
  go_loop [11, 12] (fun r i => ∃ (k : Nat) (x : Int), k ≤ 64 ∧ i = .int .i64 k ∧ r = .int .i64 x ∧ Hid (x = wrap64 (pb (fun k => bitOf a (63 - k)) k))) (fun _ i => 64 - (intOf i).toNat)
  case atStart => exact ⟨0, 0, Nat.zero_le _, rfl, rfl, by show (0 : Int) = wrap64 0; simp [wrap64]⟩
  case round =>
    obtain ⟨k, x, hk, rfl, rfl, hx⟩ := hrel
    by_cases hlt : k < 64
    · have hbd := pb_bd _ hv k
      have hput := refput_as x (bitOf a (63 - k)) _ k hlt hbd.1 hbd.2 (hv k).1 (hv k).2 hx.out
      have hbit := refbit_any a (63 - k) (by omega)
      rw [show ((63 - k : Nat) : Int) = 63 - (k : Int) by omega] at hbit
      have hnx : Hid (wrap64 (pb (fun k => bitOf a (63 - k)) k + bitOf a (63 - k) * 2 ^ k) = wrap64 (pb (fun k => bitOf a (63 - k)) (k + 1))) := rfl
      generalize wrap64 (pb (fun k => bitOf a (63 - k)) k + bitOf a (63 - k) * 2 ^ k) = y at *
      clear hbd hx
      go_wp2_with (first | (go_at_call 75; with_reducible refine (hbit _).mono ?_; rintro e w' ⟨rfl, hw⟩; replace hw := hw.symm; subst hw) | (go_at_call 76; with_reducible refine (hput _).mono ?_; rintro e w' ⟨rfl, hw⟩; replace hw := hw.symm; subst hw))
      go_round
      case rel => exact ⟨k + 1, y, by omega, by go_num, rfl, hnx⟩
      case measure => simp [intOf]; omega
    · go_wp2
      go_ret
      have : k = 64 := by omega
      subst this
      exact ⟨ret_int (hx.out.trans hfin.out), rfl⟩
theorem refone8 (a : Int) (w : World) : Calls Tryd.prog 57 #[.int .i64 8, .int .i64 a] w fun e w' => e = .returned (.int .i64 (if a = 0 then 0 else 1)) ∧ w' = w := by
  have y0 := fun w => refyes_any false w 0 rfl
  have y1 := fun w => refyes_any true w 1 rfl
  by_cases h : a = 0
  · rw [if_pos h]; subst h
    go_enter Tryd.func57, Tryd.ntmps57
    go_wp2_with (go_at_call 77; first | (with_reducible refine (y0 _).mono ?_; rintro e w' ⟨rfl, hw⟩; replace hw := hw.symm; subst hw) | (with_reducible refine (y1 _).mono ?_; rintro e w' ⟨rfl, hw⟩; replace hw := hw.symm; subst hw))
    go_ret
    exact ⟨rfl, rfl⟩
  · rw [if_neg h]
    have h1 : (a == 0) = false := by simpa using h
    have h2 : (a != 0) = true := by simpa using h
    go_enter Tryd.func57, Tryd.ntmps57
    go_wp2_with (go_at_call 77; first | (with_reducible refine (y0 _).mono ?_; rintro e w' ⟨rfl, hw⟩; replace hw := hw.symm; subst hw) | (with_reducible refine (y1 _).mono ?_; rintro e w' ⟨rfl, hw⟩; replace hw := hw.symm; subst hw))
    go_ret
    exact ⟨rfl, rfl⟩
theorem refone9 (a : Int) (w : World) : Calls Tryd.prog 57 #[.int .i64 9, .int .i64 a] w fun e w' => e = .returned (.int .i64 (if a = 0 then 1 else 0)) ∧ w' = w := by
  have y0 := fun w => refyes_any false w 0 rfl
  have y1 := fun w => refyes_any true w 1 rfl
  by_cases h : a = 0
  · rw [if_pos h]; subst h
    go_enter Tryd.func57, Tryd.ntmps57
    go_wp2_with (go_at_call 77; first | (with_reducible refine (y0 _).mono ?_; rintro e w' ⟨rfl, hw⟩; replace hw := hw.symm; subst hw) | (with_reducible refine (y1 _).mono ?_; rintro e w' ⟨rfl, hw⟩; replace hw := hw.symm; subst hw))
    go_ret
    exact ⟨rfl, rfl⟩
  · rw [if_neg h]
    have h1 : (a == 0) = false := by simpa using h
    have h2 : (a != 0) = true := by simpa using h
    go_enter Tryd.func57, Tryd.ntmps57
    go_wp2_with (go_at_call 77; first | (with_reducible refine (y0 _).mono ?_; rintro e w' ⟨rfl, hw⟩; replace hw := hw.symm; subst hw) | (with_reducible refine (y1 _).mono ?_; rintro e w' ⟨rfl, hw⟩; replace hw := hw.symm; subst hw))
    go_ret
    exact ⟨rfl, rfl⟩
end Go.Proofs.YtofeohhnfnnifaaDoor.word
