/- Contracts of package octet's Size and Zig: how many groups of seven bits a number has; zigzag. -/
import Derived.Test.YtikkgfmhnmoalaaRows
import Derived.Test.YtikkgfmhnmoalaaShelf
import Derived.Test.YtikkgfmhnmoalaaM4
import Derived.Lib.BitFns
import Derived.WalkKit
import Derived.ProofKit
import Derived.OpenShut
import Derived.WalkSpells
import Derived.WalkLawsBesides
import Derived.Test.YtikkgfmhnmoalaaM5
import Derived.Test.YtikkgfmhnmoalaaM2
import Derived.Lib.AppendZeros
namespace Go.Proofs.Ytikkgfmhnmoalaa.octet
open Go.ChangeShapes Go.WideShapes Go.ChangeAt Go.RowKit
open wrapped
set_option linter.unusedVariables false
/-- How many groups of seven bits a number has. -/
def szN (x : Nat) : Nat := (Lib.bitLen (x ||| 1) + 6) / 7
theorem or_one (x : Nat) : x ||| 1 = x / 2 * 2 + 1 := by
  have h : x = 2 ^ 1 * (x / 2) + x % 2 := by omega
  have e := Nat.two_pow_add_eq_or_of_lt (i := 1) (b := x % 2) (by omega) (x / 2)
  have e3 := Nat.two_pow_add_eq_or_of_lt (i := 1) (b := 1) (by decide) (x / 2)
  rw [← h] at e
  have h2 : x ||| 1 = 2 ^ 1 * (x / 2) ||| 1 := by
    conv => lhs; rw [e]
    rw [Nat.or_assoc]
    congr 1
    rcases (by omega : x % 2 = 0 ∨ x % 2 = 1) with h | h <;> rw [h] <;> rfl
  rw [h2, ← e3]; omega
theorem bitLen_or (z : Nat) (h0 : z ≠ 0) (h : z < 18446744073709551616) : Lib.bitLen (z ||| 1) = Lib.bitLen z := by
  rw [Lib.bitLen_half z h0 h, Lib.bitLen_half (z ||| 1) (by rw [or_one]; omega) (by rw [or_one, show 2 ^ 64 = 18446744073709551616 from by decide]; omega)]
  congr 2
  rw [or_one]; omega
theorem szN_small (x : Nat) (h : x < 128) : szN x = 1 := by
  have h1 : Lib.bitLen (x ||| 1) ≤ 7 := Lib.bitLen_le _ 7 (by decide) (by rw [or_one]; omega)
  have h2 := Lib.bitLen_half (x ||| 1) (by rw [or_one]; omega) (by rw [or_one, show 2 ^ 64 = 18446744073709551616 from by decide]; omega)
  unfold szN; omega
theorem szN_step (x : Nat) (h : 128 ≤ x) (hx : x < 18446744073709551616) : szN x = szN (x / 128) + 1 := by
  unfold szN
  rw [bitLen_or (x / 128) (by omega) (by omega), bitLen_or x (by omega) hx, Lib.bitLen_shift 7 x h hx]
  show (7 + Lib.bitLen (x / 128) + 6) / 7 = _
  omega
theorem szN_bd (x : Nat) (hx : x < 18446744073709551616) : 1 ≤ szN x ∧ szN x ≤ 10 := by
  have h1 : Lib.bitLen (x ||| 1) ≤ 64 := Lib.bitLen_le _ 64 (by decide) (by rw [or_one, show 2 ^ 64 = 18446744073709551616 from by decide]; omega)
  have h2 := Lib.bitLen_half (x ||| 1) (by rw [or_one]; omega) (by rw [or_one, show 2 ^ 64 = 18446744073709551616 from by decide]; omega)
  unfold szN; omega
theorem size_any (x : Nat) (hx : x < 18446744073709551616) (w : World) : Calls Try.prog 43 #[.int .u64 x] w fun e w' => e = .returned (.int .i64 (szN x : Nat)) ∧ w' = w := by
  have h1 : Lib.bitLen (x ||| 1) ≤ 64 := Lib.bitLen_le _ 64 (by decide) (by rw [or_one, show 2 ^ 64 = 18446744073709551616 from by decide]; omega)
  have hb : x ||| 1 < 18446744073709551616 := by rw [or_one]; omega
  have e1 : bits .or .u64 (x : Int) 1 = ((x ||| 1 : Nat) : Int) := u64_or_nat x 1 hx (by omega)
  have c := fun w => Try.bits_Len64 ((x ||| 1 : Nat) : Int) w (by omega) (by omega)
  rw [show (((x ||| 1 : Nat) : Int).toNat) = (x ||| 1) by omega] at c
  obtain ⟨L, hL⟩ : ∃ L, Hid (Lib.bitLen (x ||| 1) = L) := ⟨_, rfl⟩
  have hs : Hid (szN x = (L + 6) / 7) := by show szN x = _; unfold szN; rw [hL.out]
  rw [hL.out] at c h1
  obtain ⟨y, hy⟩ : ∃ y, Hid ((x ||| 1) = y) := ⟨_, rfl⟩
  rw [hy.out] at c e1
  clear hb hL hy
  go_enter Try.func43, Try.ntmps43
  go_wp2_with (go_at_call 53; with_reducible refine (c _).mono ?_; rintro e w' ⟨rfl, rfl⟩)
  go_ret
  refine ⟨ret_int ?_, rfl⟩
  rw [hs.out]; omega
/-- Zigzag. -/
def zg (x : Int) : Int := if x < 0 then -2 * x - 1 else 2 * x
theorem zg_bd (x : Int) (h : -9223372036854775808 ≤ x) (g : x ≤ 9223372036854775807) : 0 ≤ zg x ∧ zg x < 18446744073709551616 := by unfold zg; split <;> omega
theorem zig_eq (x : Int) (h : -9223372036854775808 ≤ x) (g : x ≤ 9223372036854775807) :
    bits .xor .u64 (IntKind.u64.wrap (wrap64 (x * 2))) (IntKind.u64.wrap (x / 9223372036854775808)) = zg x := by
  have e1 : IntKind.u64.wrap (wrap64 (x * 2)) = x * 2 % 18446744073709551616 := by rw [IntKind.wrap_u64]; unfold wrap64; omega
  rw [e1, IntKind.wrap_u64]
  unfold zg
  split
  · have e2 : x / 9223372036854775808 % 18446744073709551616 = 18446744073709551615 := by omega
    rw [e2]
    show IntKind.u64.wrap ((BitVec.ofInt 64 (x * 2 % 18446744073709551616) ^^^ BitVec.ofInt 64 18446744073709551615).toNat : Int) = _
    have e3 : BitVec.ofInt 64 18446744073709551615 = BitVec.allOnes 64 := by decide
    rw [e3, BitVec.xor_allOnes, BitVec.toNat_not, BitVec.toNat_ofInt, IntKind.wrap_u64]
    simp only [show (2 ^ 64 : Nat) = 18446744073709551616 from by decide]
    omega
  · have e2 : x / 9223372036854775808 % 18446744073709551616 = 0 := by omega
    rw [e2]
    have e4 := u64_xor_nat (x * 2 % 18446744073709551616).toNat 0 (by omega) (by omega)
    rw [Nat.xor_zero, show (((x * 2 % 18446744073709551616).toNat : Nat) : Int) = x * 2 % 18446744073709551616 by omega] at e4
    exact e4.trans (by omega)
end Go.Proofs.Ytikkgfmhnmoalaa.octet
/- A number's bytes, on plain numbers, and the contracts of package octet's Put and PutInt. -/
namespace Go.Proofs.Ytikkgfmhnmoalaa.octet
open Go.ChangeShapes Go.WideShapes Go.ChangeAt Go.RowKit
open wrapped
set_option linter.unusedVariables false
theorem sz_pow (x : Nat) (hx : x < 18446744073709551616) : x < 128 ^ szN x ∧ (1 < szN x → 128 ^ (szN x - 1) ≤ x) := by
  induction x using Nat.strongRecOn with
  | ind x ih =>
    by_cases h : x < 128
    · rw [szN_small x h]; exact ⟨by omega, fun h => by omega⟩
    · obtain ⟨h1, h2⟩ := ih (x / 128) (by omega) (by omega)
      have hb := szN_bd (x / 128) (by omega)
      rw [szN_step x (by omega) hx]
      have e : 128 ^ (szN (x / 128) + 1) = 128 ^ szN (x / 128) * 128 := Nat.pow_succ _ _
      refine ⟨by omega, fun _ => ?_⟩
      rw [Nat.add_sub_cancel]
      by_cases h3 : 1 < szN (x / 128)
      · have h4 := h2 h3
        have e2 : 128 ^ szN (x / 128) = 128 ^ (szN (x / 128) - 1) * 128 := by
          conv => lhs; rw [show szN (x / 128) = (szN (x / 128) - 1) + 1 by omega, Nat.pow_succ]
        omega
      · rw [show szN (x / 128) = 1 by omega]; omega
/-- The byte at place i of a number. -/
def gr (x i : Nat) : Nat := if i + 1 < szN x then x / 128 ^ i % 128 + 128 else x / 128 ^ i % 128
theorem gr_lt (x i : Nat) : gr x i < 256 := by unfold gr; split <;> omega
theorem gr_more (x k : Nat) (h : k + 1 < szN x) : gr x k = x / 128 ^ k % 128 + 128 := by unfold gr; rw [if_pos h]
theorem gr_last (x : Nat) (hx : x < 18446744073709551616) : gr x (szN x - 1) = x / 128 ^ (szN x - 1) ∧ x / 128 ^ (szN x - 1) < 128 := by
  have hb := szN_bd x hx
  have h1 := (sz_pow x hx).1
  have h2 : x / 128 ^ (szN x - 1) < 128 := by
    rw [Nat.div_lt_iff_lt_mul (Nat.pow_pos (by decide)), Nat.mul_comm, ← Nat.pow_succ]
    show x < 128 ^ (szN x - 1 + 1)
    rw [show szN x - 1 + 1 = szN x by omega]
    exact h1
  unfold gr
  rw [if_neg (by omega)]
  exact ⟨Nat.mod_eq_of_lt h2, h2⟩
theorem or128 (m : Nat) : m % 256 ||| 128 = m % 128 + 128 := by
  have e : m % 256 = 2 ^ 7 * (m / 128 % 2) + m % 128 := by omega
  have e1 := Nat.two_pow_add_eq_or_of_lt (i := 7) (b := m % 128) (Nat.mod_lt _ (by decide)) (m / 128 % 2)
  have e2 := Nat.two_pow_add_eq_or_of_lt (i := 7) (b := m % 128) (Nat.mod_lt _ (by decide)) 1
  rw [e, e1, Nat.or_assoc, Nat.or_comm (m % 128), ← Nat.or_assoc]
  rw [show m % 128 + 128 = 2 ^ 7 * 1 + m % 128 by omega, e2]
  congr 1
  rcases (by omega : m / 128 % 2 = 0 ∨ m / 128 % 2 = 1) with h | h <;> rw [h] <;> rfl
theorem byte_more (X : Int) (x k : Nat) (hX : X = ((x / 128 ^ k : Nat) : Int)) (h : k + 1 < szN x) : bits .or .u8 (X % 256) 128 = ((gr x k : Nat) : Int) := by
  rw [gr_more x k h, ← or128, hX]
  have := u8_or_nat (x / 128 ^ k % 256) 128 (Nat.mod_lt _ (by decide)) (by decide)
  rw [← this]
  rfl
/-- It fits where the next operation is a copy, and there alone. -/
theorem at_copy {P : Program} {w : World} {ops : Array Oper} {rest : List Oper} {a : Act} {Q : Exit → Act → World → Prop} {d : Option Tmp} {x y : Operand} {ts : Array TypeId} {ty : TypeId} {ps : String} {af : Array Edge}
    (h : wpList P ops Q (⟨d, .call { callee := .builtin .copy, args := #[x, y], argTypes := ts }, ty, ps, af, none⟩ :: rest) a w) :
    wpList P ops Q (⟨d, .call { callee := .builtin .copy, args := #[x, y], argTypes := ts }, ty, ps, af, none⟩ :: rest) a w := h
/-- 'make' with a length and a room. -/
theorem wpList_make_lc {P : Program} (w : World) {ops : Array Oper} {rest : List Oper} {o : Oper} {a : Act} {Q : Exit → Act → World → Prop}
    (hg : o.guard = none) (l c : Operand) (t : TypeId) (hop : o.op = Op.makeSlice t l c)
    (e : TypeId) (i : TypeInfo) (z : Value) (h1 : P.underlying t = some (.slice e)) (h2 : P.info? e = some i) (h3 : i.zero = some z) (hz : z.cells = #[z]) (h4 : i.size = 1)
    (kl kc : IntKind) (L C : Int) (n m : Nat) (hl : a.eval l = .int kl L) (hc : a.eval c = .int kc C) (hL : L = (n : Int)) (hC : C = (m : Int)) (hnm : n ≤ m) (b2 : i.bytes * m ≤ 281474976710656) (b3 : m ≤ 9223372036854775807)
    (hK : ∀ w', Hid (w'.heap[w.heap.size]? = some (.cells (List.replicate m z).toArray e (0, 0))) → Below w.heap.size w w' → wpList P ops Q rest (a.put o.dst (.slice (some ⟨w.heap.size, 0, none⟩) n m)) w') :
    wpList P ops Q (o :: rest) a w := by
  refine wpList_plain hg fun K hK' => ?_
  have b2' : (i.bytes : Int) * (m : Int) ≤ 281474976710656 := by
    have h : ((i.bytes * m : Nat) : Int) ≤ 281474976710656 := by omega
    rwa [Int.natCast_mul] at h
  have hrun := run_make (P := P) w t e i z h1 h2 h3 kl kc (n : Int) (m : Int) (by omega) (by omega) b2' (by omega)
  rw [hz, h4, Nat.mul_one, Int.toNat_natCast, Int.toNat_natCast] at hrun
  subst hL
  subst hC
  unfold Oper.wp
  simp [execOp, hop, hl, hc, hrun, Result.andThen]
  refine hK' _ _ (hK _ ?_ ((Below.refl _ w).alloc (Nat.le_refl _) _))
  show _ = _
  rw [heap_alloc_new]
  congr 2
  apply Array.ext'
  rw [toList_madeCells_one]
/-- What was made and copied to is owned. -/
theorem owns_copied (w : World) (g n m : Nat) (f : Nat → Nat) (hnm : n ≤ m) (hm : m ≤ 9223372036854775807) (h : w.heap[g]? = some (.cells (splice (List.replicate m (Value.int .u8 0)) 0 (bl f n)).toArray 5 (0, 0))) : Owns w g g n m f := by
  refine ⟨by rw [bl_length, Nat.mul_one], .inr ⟨g, m, _, rfl, Nat.le_refl _, h, hnm, by unfold maxLen; omega, ?_, ?_⟩⟩
  · simp [splice, bl_length]; omega
  · simp [splice, bl_length]
theorem one_bl (v : Nat) : [Value.int .u8 ((v : Nat) : Int)] = bl (fun _ => v) 1 := rfl
/-- One byte more. -/
theorem owns_more {w : World} {B n m k : Nat} {f g : Nat → Nat} (h : w.ownsRow B 5 1 (mine B (n + k + 1) m) (n + k + 1) (bl (cat f n g) (n + k) ++ [Value.int .u8 ((g k : Nat) : Int)])) : Owns w B B (n + (k + 1)) m (cat f n g) := by
  rw [one_bl, bl_cat] at h
  have e : bl (cat (cat f n g) (n + k) fun _ => g k) (n + k + 1) = bl (cat f n g) (n + k + 1) := bl_congr _ _ _ fun i hi => by
    unfold cat
    by_cases h1 : i < n + k
    · rw [if_pos h1]
    · rw [if_neg h1, if_neg (by omega), show i - n = k by omega]
  rw [e] at h
  exact h
theorem one_cell (w : World) (v : Value) (t : TypeId) : ∀ j u, [v][j]? = some u → (w.alloc (.cells #[v] t)).cell? ((⟨w.heap.size, 0, none⟩ : Addr).add j) = some u := by
  intro j u hj
  match j, hj with
  | 0, hj => simp at hj; subst hj; simp [Addr.add]
theorem one_one (v : Int) : ∀ u ∈ [Value.int .u8 v], u.oneCell' = true := by intro u hu; simp at hu; subst hu; rfl
theorem start_cat {w : World} {B n m : Nat} {f g : Nat → Nat} (h : Owns w B B n m f) : Owns w B B (n + 0) m (cat f n g) := by
  have e : bl f n = bl (cat f n g) n := bl_congr _ _ _ fun i hi => by unfold cat; rw [if_pos hi]
  show w.ownsRow _ _ _ _ _ _
  rw [Nat.add_zero, ← e]; exact h
theorem src_cells {w : World} {a : Option Addr} {n : Nat} {f : Nat → Nat} (hr : Row w a n f) (h0 : 0 < (bl f n).length) : ∃ ad, a = some ad ∧ ∀ j v, (bl f n)[j]? = some v → w.cell? (ad.add j) = some v := by
  rcases hr.2.2 with h1 | ⟨b, off, hb, hc⟩
  · rw [bl_length] at h0; omega
  · exact ⟨⟨b, off, none⟩, hb, fun j v hj => Row.cells hr _ hb j v hj⟩
set_option maxHeartbeats 1000000 in
set_option maxRecDepth 100000 in
theorem put_walk (a : Option Addr) (n c : Nat) (f g : Nat → Nat) (S : Nat) (X0 : Int) (q : Nat → Int) (w : World) (hrI : ∀ w' : World, Below w.heap.size w w' → Row w' a n f) (hlI : (n : Int) ≤ 140737488353000) (hb1 : 1 ≤ S) (hb2 : S ≤ 10)
    (c1 : ∀ w, Calls Try.prog 43 #[.int .u64 X0] w fun e w' => e = .returned (.int .i64 (S : Nat)) ∧ w' = w) (hX0 : Hid (X0 = q 0)) (hq : ∀ k, 0 ≤ q k ∧ q k < 18446744073709551616) (hqs : ∀ k, Hid (q k / 128 = q (k + 1)))
    (more : ∀ k, k + 1 < S → bits .or .u8 (q k % 256) 128 = ((g k : Nat) : Int)) (last : q (S - 1) % 256 = ((g (S - 1) : Nat) : Int)) :
    Calls Try.prog 19 #[.slice a n c, .int .u64 X0] w fun e w' => e = .returned (mine w.heap.size (n + S) (n + S)) ∧ Owns w' w.heap.size w.heap.size (n + S) (n + S) (cat f n g) ∧ Below w.heap.size w w' := by
  obtain ⟨i0, hi, hz0, hz1, hz2⟩ := info_parts info5
  have hSI : (1 : Int) ≤ S ∧ (S : Int) ≤ 10 := by omega
  have hsz1 : (Try.prog.info? 5).map (·.size) = some 1 := by rw [hi]; simp [hz1]
  go_enter Try.func19, Try.ntmps19
  go_wp2_with (first
    | (go_at_call 43; with_reducible refine (c1 _).mono ?_; rintro e w' ⟨rfl, hw⟩; replace hw := hw.symm; subst hw)
    | (at_make; (refine wpList_make_lc _ rfl _ _ 32 rfl 5 i0 (.int .u8 0) Try.underlying32 hi hz0 rfl hz1 .i64 .i64 _ _ n (n + S) rfl rfl rfl (by omega) (by omega) (by rw [hz2]; omega) (by omega) ?_; intro w1 hh1 hb1w))
    | (with_reducible refine at_copy ?_; (refine wpList_copy_splice rfl (.tmp 16) (.tmp 17) 32 32 rfl 5 Try.underlying32 hsz1 (some ⟨w.heap.size, 0, none⟩) a n (n + S) n c rfl rfl w.heap.size 0 (List.replicate (n + S) (.int .u8 0)) 5 hh1.out (bl f n) (by rw [bl_length]; simp) (fun h => ⟨rfl, src_cells (hrI w1 hb1w) h⟩) (by simp [bl_length]) (bl_one f n) w.heap.size w hb1w (Nat.le_refl _) ?_; intro w2 hh2 hb2w; have ho2 := owns_copied w2 w.heap.size n (n + S) f (by omega) (by omega) hh2.out)))
  go_loopw [1, 6, 21] (fun x out i wr => ∃ k : Nat, k + 1 ≤ S ∧ i = .int .i64 k ∧ x = .int .u64 (q k) ∧ out = mine w.heap.size (n + k) (n + S) ∧ Owns wr w.heap.size w.heap.size (n + k) (n + S) (cat f n g) ∧ Below w.heap.size w wr) (fun _ _ i _ => S - (intOf i).toNat)
  case atStart => exact ⟨0, by omega, rfl, by rw [hX0.out], rfl, start_cat ho2, hb2w⟩
  case round =>
    obtain ⟨k, hk, rfl, rfl, rfl, ho, hbl⟩ := hrel
    obtain ⟨q0, q1⟩ := hq k
    have hqk := hqs k
    by_cases hkS : k + 1 < S
    · have hm := more k hkS
      have hsz := hbl.size
      clear c1 more last hrI hq hqs hX0
      go_wp2_with (at_builtin; (refine wpList_append_fits _ rfl (.tmp 23) (.tmp 27) 32 rfl w.heap.size 5 i0 1 Try.underlying32 hi hz1 w.heap.size (n + k) (n + S) _ rfl (ho.alloc _) ⟨wr.heap.size, 0, none⟩ 1 1 [.int .u8 ((g k : Nat) : Int)] rfl rfl (one_cell _ _ _) (one_one _) (by omega) ?_; intro w3 ho3 hg3))
      have ho4 := owns_more (g := g) ho3
      have hb4 : Below w.heap.size w w3 := (hbl.alloc hsz _).grown hg3 (by simp; omega) (fun j e => by simp at e; omega)
      clear ho3 hg3 ho hbl
      go_roundw
      case rel => exact ⟨k + 1, by omega, by go_num, by rw [hqk.out], rfl, ho4, hb4⟩
      case measure => simp [intOf]; omega
    · have hkS2 : k = S - 1 := by omega
      subst hkS2
      have hsz := hbl.size
      clear c1 more hrI hq hqs hX0
      go_wp2_with (at_builtin; (refine wpList_append_fits _ rfl (.tmp 32) (.tmp 35) 32 rfl w.heap.size 5 i0 1 Try.underlying32 hi hz1 w.heap.size (n + (S - 1)) (n + S) _ rfl (ho.alloc _) ⟨wr.heap.size, 0, none⟩ 1 1 [.int .u8 ((g (S - 1) : Nat) : Int)] rfl rfl (one_cell _ _ _) (one_one _) (by omega) ?_; intro w3 ho3 hg3))
      have ho4 := owns_more (g := g) ho3
      have hb4 : Below w.heap.size w w3 := (hbl.alloc hsz _).grown hg3 (by simp; omega) (fun j e => by simp at e; omega)
      clear ho3 hg3 ho hbl
      go_ret
      refine ⟨?_, ?_, hb4⟩
      · exact congrArg (fun m => Ending.returned (.slice (some ⟨w.heap.size, 0, none⟩) m (n + S))) (by omega)
      · rw [show n + (S - 1 + 1) = n + S by omega] at ho4
        exact ho4
theorem put_any (a : Option Addr) (n c : Nat) (f : Nat → Nat) (x : Nat) (X : Int) (w : World) (hr : Row w a n f) (hl : n ≤ 140737488353000) (hx : x < 18446744073709551616) (hX : X = ((x : Nat) : Int)) :
    Calls Try.prog 19 #[.slice a n c, .int .u64 X] w fun e w' => e = .returned (mine w.heap.size (n + szN x) (n + szN x)) ∧ Owns w' w.heap.size w.heap.size (n + szN x) (n + szN x) (cat f n (gr x)) ∧ Below w.heap.size w w' := by
  subst hX
  obtain ⟨hb1, hb2⟩ := szN_bd x hx
  obtain ⟨gl1, gl2⟩ := gr_last x hx
  refine put_walk a n c f (gr x) (szN x) ((x : Nat) : Int) (fun k => ((x / 128 ^ k : Nat) : Int)) w (fun w' h => hr.later h) (by omega) hb1 hb2 (size_any x hx) ?_ ?_ ?_ ?_ ?_
  · show ((x : Nat) : Int) = ((x / 128 ^ 0 : Nat) : Int)
    rw [Nat.pow_zero, Nat.div_one]
  · intro k
    have := Nat.div_le_self x (128 ^ k)
    show (0 : Int) ≤ ((x / 128 ^ k : Nat) : Int) ∧ ((x / 128 ^ k : Nat) : Int) < 18446744073709551616
    generalize x / 128 ^ k = d at *
    omega
  · intro k
    show ((x / 128 ^ k : Nat) : Int) / 128 = ((x / 128 ^ (k + 1) : Nat) : Int)
    rw [Nat.pow_succ, ← Nat.div_div_eq_div_mul]
    rfl
  · intro k hk
    exact byte_more _ x k rfl hk
  · show ((x / 128 ^ (szN x - 1) : Nat) : Int) % 256 = _
    rw [gl1]
    omega
end Go.Proofs.Ytikkgfmhnmoalaa.octet
/- Bytes in memory, as lists of numbers; the library's Concat of two lists of bytes. -/
namespace Go.Proofs.Ytikkgfmhnmoalaa.pg
open Go.ChangeShapes Go.WideShapes Go.ChangeAt Go.RowKit
set_option linter.unusedVariables false
set_option linter.unusedSimpArgs false
set_option maxRecDepth 100000
abbrev u8c (b : Nat) : List Value := [.int .u8 ((b : Nat) : Int)]
/-- The bytes of a number. -/
def putB (x : Nat) : List Nat := (List.range (octet.szN x)).map (octet.gr x)
theorem cf_any {P : Program} {f : FuncId} {fn : Func} (hf : P.funcs[f]? = some fn) (h1 : (fn.name == "runtime.NumGoroutine") = false) (h2 : fn.body.isSome = true) (args : Array Value) (w : World) : (callFunc f args).run P w = .ok (.enter f args) w := by
  have h3 : ¬ fn.name = "runtime.NumGoroutine" := by simpa using h1
  have h4 : ¬ fn.body = none := fun q => by rw [q] at h2; simp at h2
  simp [callFunc, go_sem, hf, h3, h4]
theorem infoB : (Try.prog.info? 5).map (fun i => (i.zero, i.size, i.bytes)) = some (some (.int .u8 0), 1, 1) := by kernel_rfl
theorem row_none (w : World) : octet.Row w none 0 (fun _ => 0) := ⟨by decide, fun _ => by show 0 < 256; decide, .inl rfl⟩
theorem putB_len (x : Nat) : (putB x).length = octet.szN x := by simp [putB]
theorem putB_flat (x : Nat) : ((putB x).map u8c).flatten = octet.bl (octet.cat (fun _ => 0) 0 (octet.gr x)) (octet.szN x) := by
  unfold putB octet.bl
  rw [List.map_map]
  induction (List.range (octet.szN x)) with
  | nil => rfl
  | cons a t ih => simp only [List.map_cons, List.flatten_cons, ih]; simp [octet.cat]
theorem owns_cell {w : World} {base e n g cap : Nat} {xs : List Value} (h : w.ownsRow base e 1 (.slice (some ⟨g, 0, none⟩) n cap) n xs) (j : Nat) (u : Value) (hj : xs[j]? = some u) : w.cell? ((⟨g, 0, none⟩ : Addr).add j) = some u := by
  rw [add_none, Nat.zero_add]
  rcases h.2 with ⟨q, _⟩ | ⟨g', cap', cur, q, hb, hg, h1, h2, h3, h4⟩
  · simp at q
  · simp only [Value.slice.injEq, Option.some.injEq, Addr.mk.injEq] at q
    obtain ⟨⟨rfl, _⟩, _, rfl⟩ := q
    refine whole_cell hg j u ?_
    rw [← h4, List.getElem?_take] at hj
    split at hj
    · simpa using hj
    · simp at hj
theorem u8_flat (l : List Nat) : (l.map u8c).flatten = l.map fun b : Nat => Value.int .u8 ((b : Nat) : Int) := by
  induction l with
  | nil => rfl
  | cons a t ih => simp only [List.map_cons, List.flatten_cons, ih]; rfl
theorem below_keep {B : Nat} {a w w' : World} (h : Below B a w) (hB : B ≤ w.heap.size) (k : Below (min B w.heap.size) w w') : Below B a w' := h.trans (k.mono (by omega))
theorem zero_len (z : Array Value) (n : Nat) : (Builtin.zeroCells z n).size = n * z.size := by simp [Builtin.zeroCells]
theorem grow_any (N : Nat) (h0 : 0 < N) (hN : N ≤ 1000000) (w : World) :
    Calls Try.prog 37 #[.slice none 0 0, .int .i64 (N : Int)] w fun e w' => ∃ C, e = .returned (.slice (some ⟨w.heap.size, 0, none⟩) 0 C) ∧ OwnL w' w.heap.size 5 1 (some ⟨w.heap.size, 0, none⟩) C [] ∧ Below w.heap.size w w' := by
  obtain ⟨i5, hi5, hz5, hs5, hb5⟩ := info_of infoB
  have hI : (0 : Int) < N := by omega
  have hrun := fun ty => Lib.run_append_nil_zeros (P := Try.prog) w 32 3 ty 5 i5 _ .i64 .i64 Try.underlying32 Try.underlying3 hi5 hz5 N h0 (by omega) (by omega) (by rw [hb5]; omega)
  have hge := grownCap_ge w N 0 5
  have hle := grownCap_le_maxLen w N 0 5 (by unfold maxLen; omega)
  have hO : OwnL (w.drew.alloc (.cells (Builtin.zeroCells (Value.int .u8 0).cells N ++ Builtin.zeroCells (Value.int .u8 0).cells (grownCap w N 0 5 - N)) 5)) w.heap.size 5 1 (some ⟨w.heap.size, 0, none⟩) (grownCap w N 0 5) [] := by
    refine ⟨rfl, .inr ⟨w.heap.size, grownCap w N 0 5, _, rfl, Nat.le_refl _, heap_alloc_new w.drew _, Nat.zero_le _, hle, ?_, rfl⟩⟩
    rw [Array.size_append, zero_len, zero_len]
    show N * 1 + _ * 1 = _ * 1
    omega
  have hB : Below w.heap.size w (w.drew.alloc (.cells (Builtin.zeroCells (Value.int .u8 0).cells N ++ Builtin.zeroCells (Value.int .u8 0).cells (grownCap w N 0 5 - N)) 5)) := ((Below.refl _ w).drew).trans (boxed w.drew _)
  generalize w.drew.alloc (.cells (Builtin.zeroCells (Value.int .u8 0).cells N ++ Builtin.zeroCells (Value.int .u8 0).cells (grownCap w N 0 5 - N)) 5) = W at *
  generalize grownCap w N 0 5 = C at *
  have hCI : (N : Int) ≤ C := by omega
  unfold maxLen at hle
  have hCm : (C : Int) ≤ 9223372036854775807 := by omega
  go_enter Try.func37, Try.ntmps37
  go_wp2_with (at_builtin; refine Lib.wpList_append_run _ rfl _ _ _ _ rfl _ _ rfl rfl _ _ (hrun _) ?_)
  go_ret
  exact ⟨C, rfl, hO, hB⟩
theorem sl_ix {w : World} {a : Option Addr} {cap : Nat} {l : List Value} (h : Rows w 1 a cap (l.map fun v => [v])) (i : Nat) (x : Value) (hi : l[i]? = some x) :
    ∃ b o, (∀ wx, (Instr.indexAt 88 (.slice a l.length cap) (.int .i64 (i : Int))).run Try.prog wx = .ok (.pointer (some ⟨b, o, none⟩)) wx) ∧ b < w.heap.size ∧ w.cell? ⟨b, o, none⟩ = some x := by
  obtain ⟨b, o, hr, hlt, hc⟩ := h.ix 88 32 Try.underlying88 (by kernel_rfl) (fun wx => Try.sizeOf32 wx) i (row := [x]) (by simp [hi])
  rw [List.length_map] at hr
  exact ⟨b, o, hr, hlt, hc 0 _ rfl⟩
theorem u8_len (l : List Nat) : ∀ row ∈ l.map u8c, row.length = 1 := by intro r hr; obtain ⟨x, _, rfl⟩ := List.mem_map.mp hr; rfl
theorem u8_one (l : List Nat) : ∀ row ∈ l.map u8c, ∀ u ∈ row, u.oneCell' = true := by intro r hr u hu; obtain ⟨x, _, rfl⟩ := List.mem_map.mp hr; simp only [List.mem_cons, List.not_mem_nil, or_false] at hu; subst hu; rfl
set_option maxHeartbeats 4000000 in
theorem concat_any (A : Nat) (x y : List Nat) (a0 a1 : Option Addr) (c0 c1 : Nat) (w : World) (hR : Rows w 1 (some ⟨A, 0, none⟩) 2 ([Value.slice a0 x.length c0, .slice a1 y.length c1].map fun v => [v])) (hx : Rows w 1 a0 c0 (x.map u8c)) (hy : Rows w 1 a1 c1 (y.map u8c)) (h0 : 0 < x.length + y.length) (hn : x.length + y.length ≤ 1000000) :
    Calls Try.prog 16 #[.slice (some ⟨A, 0, none⟩) 2 2] w fun e w' => ∃ va vc, e = .returned (.slice va (x.length + y.length) vc) ∧ OwnL w' w.heap.size 5 1 va vc ((x ++ y).map u8c) ∧ Below w.heap.size w w' := by
  obtain ⟨i5, hi5, hz5, hs5, hb5⟩ := info_of infoB
  obtain ⟨b0, o0, ix0, _, d0⟩ := sl_ix hR 0 _ rfl
  obtain ⟨b1, o1, ix1, _, d1⟩ := sl_ix hR 1 _ rfl
  have cG : ∀ wx, Calls Try.prog 37 #[.slice none 0 0, .int .i64 ((x.length : Int) + (y.length : Int))] wx _ := fun wx => grow_any (x.length + y.length) h0 hn wx
  have hxI : Hid (∀ wx, Below w.heap.size w wx → Rows wx 1 a0 c0 (x.map u8c)) := fun wx h => hx.later h
  have hyI : Hid (∀ wx, Below w.heap.size w wx → Rows wx 1 a1 c1 (y.map u8c)) := fun wx h => hy.later h
  have hRI : Hid (Rows w 1 (some ⟨A, 0, none⟩) 2 ([Value.slice a0 x.length c0, .slice a1 y.length c1].map fun v => [v])) := hR
  have hnI : (x.length : Int) + (y.length : Int) ≤ 1000000 := by omega
  clear hx hy hR
  go_enter Try.func16, Try.ntmps16
  go_wp2_with fail
  go_loopw [3, 11] (fun u i wr => wr = w ∧ ((i = .int .i64 0 ∧ u = .int .i64 0) ∨ (i = .int .i64 1 ∧ u = .int .i64 (x.length : Int)) ∨ (i = .int .i64 2 ∧ u = .int .i64 ((x.length : Int) + (y.length : Int))))) (fun _ i _ => 2 - (intOf i).toNat)
  case atStart => exact ⟨rfl, .inl ⟨rfl, rfl⟩⟩
  case round =>
    obtain ⟨hw, hcs⟩ := hrel
    replace hw := hw.symm
    subst hw
    obtain ⟨rfl, rfl⟩ | ⟨rfl, rfl⟩ | ⟨rfl, rfl⟩ := hcs
    · have e1 : ∀ wx, (Instr.indexAt 88 (.slice (some ⟨A, 0, none⟩) 2 2) (.int .i64 0)).run Try.prog wx = .ok (.pointer (some ⟨b0, o0, none⟩)) wx := ix0
      go_wp2
      go_roundw
      case rel => exact ⟨trivial, .inr (.inl ⟨by go_num, by go_num⟩)⟩
      case measure => simp [intOf]
    · have e1 : ∀ wx, (Instr.indexAt 88 (.slice (some ⟨A, 0, none⟩) 2 2) (.int .i64 1)).run Try.prog wx = .ok (.pointer (some ⟨b1, o1, none⟩)) wx := ix1
      go_wp2
      go_roundw
      case rel => exact ⟨trivial, .inr (.inr ⟨by go_num, by go_num⟩)⟩
      case measure => simp [intOf]
    · go_wp2_with (go_at_call 37; (with_reducible refine (cG _).mono ?_); rintro e w1 ⟨C, rfl, hO, hB⟩)
      clear cG
      go_loopw [6, 27] (fun u i w2 => Below w.heap.size w w2 ∧ ∃ va vc, ((i = .int .i64 0 ∧ u = .slice va 0 vc ∧ OwnL w2 w.heap.size 5 1 va vc []) ∨ (i = .int .i64 1 ∧ u = .slice va x.length vc ∧ OwnL w2 w.heap.size 5 1 va vc (x.map u8c)) ∨ (i = .int .i64 2 ∧ u = .slice va (x.length + y.length) vc ∧ OwnL w2 w.heap.size 5 1 va vc ((x ++ y).map u8c)))) (fun _ i _ => 2 - (intOf i).toNat)
      case atStart => exact ⟨hB, _, _, .inl ⟨rfl, rfl, hO⟩⟩
      case round =>
        clear hO hB
        obtain ⟨hB, va, vc, ⟨rfl, rfl, hO⟩ | ⟨rfl, rfl, hO⟩ | ⟨rfl, rfl, hO⟩⟩ := hrel
        · have e1 : ∀ wx, (Instr.indexAt 88 (.slice (some ⟨A, 0, none⟩) 2 2) (.int .i64 0)).run Try.prog wx = .ok (.pointer (some ⟨b0, o0, none⟩)) wx := ix0
          have d := cell_later hB d0
          go_wp2_with (at_builtin; (refine wpList_app rfl (.tmp 31) (.tmp 32) 32 rfl w.heap.size 5 i5 _ 1 1 Try.underlying32 hi5 hz5 hs5 hb5 rfl (by decide) va vc ([]) (by rfl) hO a0 c0 (x.map u8c) (by rw [List.length_map]; rfl) (hxI.out _ hB) (u8_len _) (u8_one _) (by unfold maxLen; simp only [List.length_map, List.length_nil]; omega) (by simp only [List.length_map, List.length_nil]; omega) hB.size ?_); intro va' vc' w3 ho3 hk3 hB3 hbl3; simp only [List.length_append, List.length_map, List.length_nil, List.nil_append, Nat.zero_add] at ho3 ⊢)
          go_roundw
          case rel => exact ⟨below_keep hB hB.size hB3, va', vc', .inr (.inl ⟨by go_num, rfl, ho3⟩)⟩
          case measure => simp [intOf]
        · have e1 : ∀ wx, (Instr.indexAt 88 (.slice (some ⟨A, 0, none⟩) 2 2) (.int .i64 1)).run Try.prog wx = .ok (.pointer (some ⟨b1, o1, none⟩)) wx := ix1
          have d := cell_later hB d1
          go_wp2_with (at_builtin; (refine wpList_app rfl (.tmp 31) (.tmp 32) 32 rfl w.heap.size 5 i5 _ 1 1 Try.underlying32 hi5 hz5 hs5 hb5 rfl (by decide) va vc (x.map u8c) (by rw [List.length_map]; rfl) hO a1 c1 (y.map u8c) (by rw [List.length_map]; rfl) (hyI.out _ hB) (u8_len _) (u8_one _) (by unfold maxLen; simp only [List.length_map, List.length_nil]; omega) (by simp only [List.length_map, List.length_nil]; omega) hB.size ?_); intro va' vc' w3 ho3 hk3 hB3 hbl3; simp only [List.length_append, List.length_map, List.length_nil, List.nil_append, Nat.zero_add] at ho3 ⊢)
          go_roundw
          case rel => exact ⟨below_keep hB hB.size hB3, va', vc', .inr (.inr ⟨by go_num, rfl, by rw [List.map_append]; exact ho3⟩)⟩
          case measure => simp [intOf]
        · go_wp2
          go_ret
          exact ⟨va, vc, rfl, hO, hB⟩
abbrev Bt (L : List Nat) : Prop := ∀ b ∈ L, b < 256
theorem bt_app {L M : List Nat} (h : Bt L) (k : Bt M) : Bt (L ++ M) := fun b hb => (List.mem_append.mp hb).elim (h b) (k b)
theorem bt_put (x : Nat) : Bt (putB x) := fun b hb => by
  obtain ⟨i, _, rfl⟩ := List.mem_map.mp hb
  exact octet.gr_lt x i
def fl (L : List Nat) : Nat → Nat := fun i => L.getD i 0
theorem fl_lt {L : List Nat} (h : Bt L) (i : Nat) : fl L i < 256 := by
  unfold fl
  rw [List.getD_eq_getElem?_getD]
  cases hi : L[i]? with
  | none => show 0 < 256; decide
  | some b => exact h b (List.mem_of_getElem? hi)
theorem rows_row {w : World} {a : Option Addr} {cap : Nat} {L : List Nat} (h : Rows w 1 a cap (L.map u8c)) (hb : Bt L) : octet.Row w a L.length (fl L) := by
  refine ⟨by have := rows_len h; omega, fl_lt hb, ?_⟩
  rcases h.2.2.2 with h0 | ⟨b, off, ha, _, hc⟩
  · left; simpa using congrArg List.length h0
  · right
    refine ⟨b, off, ha, fun i hi => ?_⟩
    have := (hc i (u8c L[i]) (by simp [hi])).2 0 _ rfl
    rw [Nat.mul_one, Nat.add_zero] at this
    rw [this]
    unfold fl
    rw [List.getD_eq_getElem?_getD, List.getElem?_eq_getElem hi]
    rfl
theorem cf_concat (args : Array Value) (w : World) : (callFunc 16 args).run Try.prog w = .ok (.enter 16 args) w := cf_any Try.func16 (by kernel_rfl) (by kernel_rfl) args w
theorem rows_two {w : World} {b : Nat} {v0 v1 : Value} {t : TypeId} (h : w.heap[b]? = some (.cells #[v0, v1] t (0, 0))) : Rows w 1 (some ⟨b, 0, none⟩) 2 ([v0, v1].map fun v => [v]) := by
  refine ⟨by simp, by decide, by simp, .inr ⟨b, 0, rfl, (Array.getElem?_eq_some_iff.mp h).1, fun i row hi => ?_⟩⟩
  match i with
  | 0 => simp at hi; subst hi; exact ⟨rfl, fun j u hj => by match j with | 0 => simp at hj; subst hj; exact whole_cell h 0 _ rfl | j + 1 => simp at hj⟩
  | 1 => simp at hi; subst hi; exact ⟨rfl, fun j u hj => by match j with | 0 => simp at hj; subst hj; exact whole_cell h 1 _ rfl | j + 1 => simp at hj⟩
  | i + 2 => simp at hi
end Go.Proofs.Ytikkgfmhnmoalaa.pg
