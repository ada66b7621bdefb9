/- A program in memory of its own: the contract of the statements' own Prog. -/
import Derived.Test.YtikkgfmhnmoalaaM2
import Derived.RowKit
import Derived.IntWalk
import Derived.WalkKit
import Derived.Laws.BitsAllLaws
namespace Go.Proofs.Ytikkgfmhnmoalaa.pg
open Go.ChangeShapes Go.WideShapes Go.ChangeAt Go.RowKit
set_option linter.unusedVariables false
set_option linter.unusedSimpArgs false
set_option maxRecDepth 100000
theorem info_of {P : Program} {e : TypeId} {z : Value} {k b : Nat} (h : (P.info? e).map (fun i => (i.zero, i.size, i.bytes)) = some (some z, k, b)) : ∃ i, P.info? e = some i ∧ i.zero = some z ∧ i.size = k ∧ i.bytes = b := by
  obtain ⟨i, hi, h2⟩ := Option.map_eq_some_iff.mp h
  simp only [Prod.mk.injEq] at h2
  exact ⟨i, hi, h2.1, h2.2.1, h2.2.2⟩
theorem infoN : (Try.prog.info? 3).map (fun i => (i.zero, i.size, i.bytes)) = some (some (.int .i64 0), 1, 8) := by kernel_rfl
def MFn.rest (f : MFn) : List Nat := blk f.ca ++ f.sels.flatMap fun s => blk s.at_
def MFn.blocks (f : MFn) : List Nat := blk f.sa ++ f.rest
def MPr.rest (p : MPr) : List Nat := blk p.va ++ (blk p.cha ++ p.fns.flatMap MFn.blocks)
def MPr.blocks (p : MPr) : List Nat := blk p.fa ++ p.rest
theorem len2 (l : List Vr) : ∀ row ∈ l.map Vr.cells, row.length = 2 := by intro r hr; simp only [List.mem_map] at hr; obtain ⟨x, _, rfl⟩ := hr; rfl
theorem len1 (l : List Int) : ∀ row ∈ l.map chCells, row.length = 1 := by intro r hr; simp only [List.mem_map] at hr; obtain ⟨x, _, rfl⟩ := hr; rfl
theorem len5 (l : List Ins) : ∀ row ∈ l.map Ins.cells, row.length = 5 := by intro r hr; simp only [List.mem_map] at hr; obtain ⟨x, _, rfl⟩ := hr; rfl
theorem len4 (l : List Cas) : ∀ row ∈ l.map Cas.cells, row.length = 4 := by intro r hr; simp only [List.mem_map] at hr; obtain ⟨x, _, rfl⟩ := hr; rfl
theorem len2s (l : List MSel) : ∀ row ∈ l.map MSel.cells, row.length = 2 := by intro r hr; simp only [List.mem_map] at hr; obtain ⟨x, _, rfl⟩ := hr; rfl
theorem len4f (l : List MFn) : ∀ row ∈ l.map MFn.cells, row.length = 4 := by intro r hr; simp only [List.mem_map] at hr; obtain ⟨x, _, rfl⟩ := hr; rfl
theorem one2 (l : List Vr) : ∀ row ∈ l.map Vr.cells, ∀ u ∈ row, u.oneCell' = true := by intro r hr u hu; simp only [List.mem_map] at hr; obtain ⟨x, _, rfl⟩ := hr; simp only [Vr.cells, List.mem_cons, List.not_mem_nil, or_false] at hu; rcases hu with rfl | rfl <;> rfl
theorem one1 (l : List Int) : ∀ row ∈ l.map chCells, ∀ u ∈ row, u.oneCell' = true := by intro r hr u hu; simp only [List.mem_map] at hr; obtain ⟨x, _, rfl⟩ := hr; simp only [chCells, List.mem_cons, List.not_mem_nil, or_false] at hu; subst hu; rfl
theorem one5 (l : List Ins) : ∀ row ∈ l.map Ins.cells, ∀ u ∈ row, u.oneCell' = true := by intro r hr u hu; simp only [List.mem_map] at hr; obtain ⟨x, _, rfl⟩ := hr; simp only [Ins.cells, List.mem_cons, List.not_mem_nil, or_false] at hu; rcases hu with rfl | rfl | rfl | rfl | rfl <;> rfl
theorem one4 (l : List Cas) : ∀ row ∈ l.map Cas.cells, ∀ u ∈ row, u.oneCell' = true := by intro r hr u hu; simp only [List.mem_map] at hr; obtain ⟨x, _, rfl⟩ := hr; simp only [Cas.cells, List.mem_cons, List.not_mem_nil, or_false] at hu; rcases hu with rfl | rfl | rfl | rfl <;> rfl
theorem one2s (l : List MSel) : ∀ row ∈ l.map MSel.cells, ∀ u ∈ row, u.oneCell' = true := by intro r hr u hu; simp only [List.mem_map] at hr; obtain ⟨x, _, rfl⟩ := hr; simp only [MSel.cells, List.mem_cons, List.not_mem_nil, or_false] at hu; rcases hu with rfl | rfl <;> rfl
theorem one4f (l : List MFn) : ∀ row ∈ l.map MFn.cells, ∀ u ∈ row, u.oneCell' = true := by intro r hr u hu; simp only [List.mem_map] at hr; obtain ⟨x, _, rfl⟩ := hr; simp only [MFn.cells, List.mem_cons, List.not_mem_nil, or_false] at hu; rcases hu with rfl | rfl | rfl | rfl <;> rfl
theorem own_nil (w : World) (lo e k : Nat) : OwnL w lo e k none 0 [] := ⟨by simp, .inl ⟨rfl, rfl⟩⟩
end Go.Proofs.Ytikkgfmhnmoalaa.pg
/- Plain facts on numbers that go round at 64 bits ('wrap64'): they say nothing of a program. -/
namespace Go.Proofs.Ytikkgfmhnmoalaa.wrapped
open Go.RowKit

/-- Two numbers go round to one word, if they differ by a multiple of 2^64. -/
theorem wrap64_of (x y k : Int) (h : x = y + 18446744073709551616 * k) : wrap64 x = wrap64 y := by unfold wrap64; omega
theorem wrap64_ex (x : Int) : ∃ k : Int, wrap64 x = x + 18446744073709551616 * k := ⟨-((x + 9223372036854775808) / 18446744073709551616), by unfold wrap64; omega⟩
theorem wrap64_wrap (x : Int) : wrap64 (wrap64 x) = wrap64 x := by unfold wrap64; omega
theorem wrap64_lo (x : Int) : -9223372036854775808 ≤ wrap64 x := by unfold wrap64; omega
theorem wrap64_hi (x : Int) : wrap64 x ≤ 9223372036854775807 := by unfold wrap64; omega
theorem wrap64_addl (x y : Int) : wrap64 (wrap64 x + y) = wrap64 (x + y) := by unfold wrap64; omega
theorem wrap64_addr (x y : Int) : wrap64 (x + wrap64 y) = wrap64 (x + y) := by unfold wrap64; omega
theorem wrap64_mull (x y : Int) : wrap64 (wrap64 x * y) = wrap64 (x * y) := by
  obtain ⟨k, hk⟩ := wrap64_ex x
  rw [hk]
  exact wrap64_of _ _ (k * y) (by rw [Int.add_mul, Int.mul_assoc])
theorem wrap64_mulr (x y : Int) : wrap64 (x * wrap64 y) = wrap64 (x * y) := by
  rw [Int.mul_comm, wrap64_mull, Int.mul_comm]
theorem wf_bounds {a : Int} (h : (Lit.int .i64 a).wf = true) : -9223372036854775808 ≤ a ∧ a ≤ 9223372036854775807 := by
  simpa [Lit.wf, IntKind.min, IntKind.max, IntKind.bits, IntKind.signed] using h
theorem wrap64_id (n : Int) (h : -9223372036854775808 ≤ n) (g : n ≤ 9223372036854775807) : wrap64 n = n := by unfold wrap64; omega
theorem tmod_size (a b : Int) (h : b ≠ 0) : (0 < b → -b < a.tmod b ∧ a.tmod b < b) ∧ (b < 0 → b < a.tmod b ∧ a.tmod b < -b) := by
  have h1 := Int.natAbs_tmod a b
  have h2 : a.natAbs % b.natAbs < b.natAbs := Nat.mod_lt _ (by omega)
  constructor <;> intro _ <;> omega
theorem tmod_sign (a b : Int) : (0 ≤ a → 0 ≤ a.tmod b) ∧ (a ≤ 0 → a.tmod b ≤ 0) := by
  refine ⟨fun h => Int.tmod_nonneg b h, fun h => ?_⟩
  have h1 := Int.tmod_nonneg (a := -a) b (by omega)
  rw [Int.neg_tmod] at h1
  omega
theorem wf_ubounds {a : Int} (h : (Lit.int .u64 a).wf = true) : 0 ≤ a ∧ a < 18446744073709551616 := by
  have h2 : 0 ≤ a ∧ a ≤ 18446744073709551615 := by simpa [Lit.wf, IntKind.min, IntKind.max, IntKind.bits, IntKind.signed] using h
  omega
end Go.Proofs.Ytikkgfmhnmoalaa.wrapped
/- Plain facts on the bits of 64-bit numbers, by core's BitVec: they say nothing of a program. -/
namespace Go.Proofs.Ytikkgfmhnmoalaa.wrapped
open Go.RowKit

theorem wrap_toInt (v : BitVec 64) : IntKind.i64.wrap (v.toNat : Int) = v.toInt := by
  rw [BitVec.toInt_eq_toNat_cond]
  have := v.isLt
  simp [IntKind.wrap, IntKind.bits, IntKind.signed]
  split <;> split <;> omega
theorem wrap64_toInt (x : Int) : wrap64 x = (BitVec.ofInt 64 x).toInt := by
  rw [BitVec.toInt_ofInt, Int.bmod_def]
  unfold wrap64
  split <;> omega
theorem bits_and_eq (x y : Int) : bits .and .i64 x y = (BitVec.ofInt 64 x &&& BitVec.ofInt 64 y).toInt := wrap_toInt _
theorem bits_or_eq (x y : Int) : bits .or .i64 x y = (BitVec.ofInt 64 x ||| BitVec.ofInt 64 y).toInt := wrap_toInt _
theorem bits_xor_eq (x y : Int) : bits .xor .i64 x y = (BitVec.ofInt 64 x ^^^ BitVec.ofInt 64 y).toInt := wrap_toInt _
theorem toInt_neg (v : BitVec 64) : decide (v.toInt < 0) = v.msb := BitVec.msb_eq_toInt.symm
theorem msb_ofInt (x : Int) (h : -9223372036854775808 ≤ x) (g : x ≤ 9223372036854775807) : (BitVec.ofInt 64 x).msb = decide (x < 0) := by
  rw [BitVec.msb_eq_toInt, ← wrap64_toInt, wrap64_id x h g]
/-- Add goes over just if both operands have the other sign than what was made. -/
theorem over_add (a b s : Int) (la : -9223372036854775808 ≤ a) (ha : a ≤ 9223372036854775807) (lb : -9223372036854775808 ≤ b) (hb : b ≤ 9223372036854775807) (ls : -9223372036854775808 ≤ s) (hs : s ≤ 9223372036854775807) :
    decide (bits .and .i64 (bits .xor .i64 a s) (bits .xor .i64 b s) < 0) = ((decide (a < 0) ^^ decide (s < 0)) && (decide (b < 0) ^^ decide (s < 0))) := by
  rw [bits_and_eq, bits_xor_eq, bits_xor_eq, toInt_neg, BitVec.msb_and, BitVec.ofInt_toInt, BitVec.ofInt_toInt, BitVec.msb_xor, BitVec.msb_xor, msb_ofInt a la ha, msb_ofInt b lb hb, msb_ofInt s ls hs]
theorem ret_int {k : IntKind} {a b : Int} (h : a = b) : Ending.returned (.int k a) = .returned (.int k b) := by rw [h]
theorem ret_two {k l : IntKind} {a b c d : Int} (h : a = b) (g : c = d) : Ending.returned (.tuple #[.int k a, .int l c]) = .returned (.tuple #[.int k b, .int l d]) := by rw [h, g]
theorem mod_neg (a : Int) (la : -9223372036854775808 ≤ a) (ha : a ≤ 9223372036854775807) : a % 18446744073709551616 = if a < 0 then a + 18446744073709551616 else a := by split <;> omega
/-- The high word of the product of two unsigned words, by that of the words themselves. -/
theorem wide_high (a b : Int) (la : -9223372036854775808 ≤ a) (ha : a ≤ 9223372036854775807) (lb : -9223372036854775808 ≤ b) (hb : b ≤ 9223372036854775807) :
    (a % 18446744073709551616) * (b % 18446744073709551616) / 18446744073709551616 = a * b / 18446744073709551616 + (if a < 0 then b else 0) + (if b < 0 then a else 0) + (if a < 0 then (if b < 0 then 18446744073709551616 else 0) else 0) := by
  rw [mod_neg a la ha, mod_neg b lb hb]
  split <;> split
  · rw [Int.add_mul, Int.mul_add, Int.mul_add]; omega
  · rw [Int.add_mul]; omega
  · rw [Int.mul_add]; omega
  · omega
theorem prod_range (a b m : Int) (la : -m ≤ a) (ha : a ≤ m) (lb : -m ≤ b) (hb : b ≤ m) : -(m * m) ≤ a * b ∧ a * b ≤ m * m := by
  have h1 : 0 ≤ (m - a) * (m - b) := Int.mul_nonneg (by omega) (by omega)
  have h2 : 0 ≤ (m + a) * (m + b) := Int.mul_nonneg (by omega) (by omega)
  have h3 : 0 ≤ (m - a) * (m + b) := Int.mul_nonneg (by omega) (by omega)
  have h4 : 0 ≤ (m + a) * (m - b) := Int.mul_nonneg (by omega) (by omega)
  simp only [Int.add_mul, Int.mul_add, Int.sub_mul, Int.mul_sub] at h1 h2 h3 h4
  rw [Int.mul_comm m b] at *
  rw [Int.mul_comm a m] at *
  omega
theorem wide_range (a b : Int) (la : -9223372036854775808 ≤ a) (ha : a ≤ 9223372036854775807) (lb : -9223372036854775808 ≤ b) (hb : b ≤ 9223372036854775807) :
    -4611686018427387904 ≤ a * b / 18446744073709551616 ∧ a * b / 18446744073709551616 ≤ 4611686018427387904 := by
  have h := prod_range a b 9223372036854775808 (by omega) (by omega) (by omega) (by omega)
  omega
theorem bits_one (x : Int) : bits .and .i64 x 1 = x % 2 := by
  have h : (BitVec.ofInt 64 x &&& BitVec.ofInt 64 1).toNat = (x % 2).toNat := by
    have e1 : (BitVec.ofInt 64 1 : BitVec 64).toNat = 1 := by decide
    rw [BitVec.toNat_and, e1, Nat.and_one_is_mod, BitVec.toNat_ofInt]
    have : (2 ^ 64 : Nat) = 18446744073709551616 := by decide
    rw [this]
    omega
  show IntKind.i64.wrap ((BitVec.ofInt 64 x &&& BitVec.ofInt 64 1).toNat : Int) = x % 2
  rw [h]
  simp [IntKind.wrap, IntKind.bits, IntKind.signed]
  omega
theorem bits_63 (x : Int) : bits .and .i64 x 63 = x % 64 := by
  have h : (BitVec.ofInt 64 x &&& BitVec.ofInt 64 63).toNat = (x % 64).toNat := by
    have e1 : (BitVec.ofInt 64 63 : BitVec 64).toNat = 63 := by decide
    have e2 : ∀ n : Nat, n &&& 63 = n % 64 := fun n => Nat.and_two_pow_sub_one_eq_mod n 6
    rw [BitVec.toNat_and, e1, e2, BitVec.toNat_ofInt]
    have : (2 ^ 64 : Nat) = 18446744073709551616 := by decide
    rw [this]
    omega
  show IntKind.i64.wrap ((BitVec.ofInt 64 x &&& BitVec.ofInt 64 63).toNat : Int) = x % 64
  rw [h]
  simp [IntKind.wrap, IntKind.bits, IntKind.signed]
  omega
theorem bits_u63 (s : Nat) (h : s < 64) : bits .and .u64 (s : Int) 63 = (s : Int) := by
  have e := u64_and_nat s 63 (by omega) (by omega)
  have e2 : s &&& 63 = s := by rw [show (63 : Nat) = 2 ^ 6 - 1 from rfl, Nat.and_two_pow_sub_one_eq_mod]; omega
  rw [e2] at e
  exact e
/-- The bits of x, each s places higher, those above the highest one at the bottom. -/
def rotN (x : Int) (s : Nat) : Int := x * 2 ^ s % 18446744073709551616 + x / 2 ^ (64 - s)
theorem rot_or (x : Int) (s : Nat) (h0 : 0 ≤ x) (h1 : x < 18446744073709551616) (hs : s < 64) :
    bits .or .u64 (x * 2 ^ s % 18446744073709551616) (x / 2 ^ (64 - s)) = rotN x s := by
  obtain ⟨n, rfl⟩ := Int.eq_ofNat_of_zero_le h0
  have hn : n < 2 ^ 64 := by rw [show (2 ^ 64 : Nat) = 18446744073709551616 from by decide]; omega
  have p : (2 : Nat) ^ 64 = 2 ^ (64 - s) * 2 ^ s := by rw [← Nat.pow_add]; congr 1; omega
  have hd : n / 2 ^ (64 - s) < 2 ^ s := by
    rw [Nat.div_lt_iff_lt_mul (Nat.two_pow_pos _), Nat.mul_comm, ← p]; exact hn
  have hm : n * 2 ^ s % 2 ^ 64 = 2 ^ s * (n % 2 ^ (64 - s)) := by
    rw [p, Nat.mul_comm n, Nat.mul_comm (2 ^ (64 - s)), Nat.mul_mod_mul_left]
  have hor : n * 2 ^ s % 2 ^ 64 ||| n / 2 ^ (64 - s) = n * 2 ^ s % 2 ^ 64 + n / 2 ^ (64 - s) := by
    rw [hm]; exact (Nat.two_pow_add_eq_or_of_lt hd _).symm
  have hlt : n * 2 ^ s % 2 ^ 64 < 18446744073709551616 := Nat.mod_lt _ (by decide)
  have hlt2 : n / 2 ^ (64 - s) < 18446744073709551616 := Nat.lt_of_le_of_lt (Nat.div_le_self _ _) hn
  have e := u64_or_nat (n * 2 ^ s % 2 ^ 64) (n / 2 ^ (64 - s)) hlt hlt2
  rw [hor] at e
  unfold rotN
  have c1 : ((n * 2 ^ s % 2 ^ 64 : Nat) : Int) = (n : Int) * 2 ^ s % 18446744073709551616 := by
    rw [show (2 : Nat) ^ 64 = 18446744073709551616 from by decide]
    simp [Int.natCast_emod, Int.natCast_mul, Int.natCast_pow]
  have c2 : ((n / 2 ^ (64 - s) : Nat) : Int) = (n : Int) / 2 ^ (64 - s) := by
    simp [Int.natCast_ediv, Int.natCast_pow]
  rw [c1, c2] at e
  rw [e, Int.natCast_add, c1, c2]
/-- Bit k of a number, as 0 or 1. -/
def bitOf (a : Int) (k : Nat) : Int := a / 2 ^ k % 2
theorem bitOf_01 (a : Int) (k : Nat) : 0 ≤ bitOf a k ∧ bitOf a k ≤ 1 := by unfold bitOf; omega
/-- How many of the lowest n bits are 1. -/
def onesN (a : Int) : Nat → Int
  | 0 => 0
  | n + 1 => onesN a n + bitOf a n
theorem onesN_bd (a : Int) (n : Nat) : 0 ≤ onesN a n ∧ onesN a n ≤ n := by
  induction n with
  | zero => simp [onesN]
  | succ n ih => have := bitOf_01 a n; simp only [onesN]; omega
/-- The lowest n bits, the last one first. -/
def flipN (a : Int) : Nat → Int
  | 0 => 0
  | n + 1 => flipN a n * 2 + bitOf a n
theorem flipN_bd (a : Int) (n : Nat) : 0 ≤ flipN a n ∧ flipN a n < 2 ^ n := by
  induction n with
  | zero => simp [flipN]
  | succ n ih => have := bitOf_01 a n; simp only [flipN]; rw [Int.pow_succ]; omega
theorem or_bit (x b : Int) (h0 : 0 ≤ b) (h1 : b ≤ 1) : bits .or .i64 (wrap64 (x * 2)) b = wrap64 (x * 2 + b) := by
  have hb : b = 0 ∨ b = 1 := by omega
  have e : (BitVec.ofInt 64 (wrap64 (x * 2)) ||| BitVec.ofInt 64 b) = BitVec.ofInt 64 (x * 2 + b) := by
    have e2 : BitVec.ofInt 64 (wrap64 (x * 2)) = BitVec.ofInt 64 (x * 2) := by rw [wrap64_toInt, BitVec.ofInt_toInt]
    rw [e2]
    apply BitVec.eq_of_toNat_eq
    have p : (2 ^ 64 : Nat) = 18446744073709551616 := by decide
    rcases hb with rfl | rfl
    · simp
    · rw [BitVec.toNat_or, BitVec.toNat_ofInt, BitVec.toNat_ofInt, BitVec.toNat_ofInt, p]
      have q : ((1 : Int) % (18446744073709551616 : Nat)).toNat = 1 := by decide
      rw [q]
      have r : (x * 2 % (18446744073709551616 : Nat)).toNat % 2 = 0 := by omega
      have t : (x * 2 % (18446744073709551616 : Nat)).toNat ||| 1 = (x * 2 % (18446744073709551616 : Nat)).toNat + 1 := by
        generalize (x * 2 % (18446744073709551616 : Nat)).toNat = n at r
        obtain ⟨m, rfl⟩ : ∃ m, n = 2 * m := ⟨n / 2, by omega⟩
        exact (Nat.two_pow_add_eq_or_of_lt (i := 1) (b := 1) (by decide) m).symm
      rw [t]
      omega
  rw [bits_or_eq, e, ← wrap64_toInt]
end Go.Proofs.Ytikkgfmhnmoalaa.wrapped
