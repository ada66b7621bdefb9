/- Plain facts on numbers that go round at 64 bits ('wrap64'): they say nothing of a program. -/
import Derived.RowKit
import Derived.IntWalk
import Derived.Test.YtklpifammbnldaaM22
import Derived.Test.YtklpifammbnldaaM32
namespace Go.Proofs.Ytklpifammbnldaa.wrapped
open Go.RowKit

/-- Two numbers go round to one word, if they differ by a multiple of 2^64. -/
theorem wrap64_of (x y k : Int) (h : x = y + 18446744073709551616 * k) : wrap64 x = wrap64 y := by unfold wrap64; omega
theorem wrap64_ex (x : Int) : ∃ k : Int, wrap64 x = x + 18446744073709551616 * k := ⟨-((x + 9223372036854775808) / 18446744073709551616), by unfold wrap64; omega⟩
theorem wrap64_wrap (x : Int) : wrap64 (wrap64 x) = wrap64 x := by unfold wrap64; omega
theorem wrap64_lo (x : Int) : -9223372036854775808 ≤ wrap64 x := by unfold wrap64; omega
theorem wrap64_hi (x : Int) : wrap64 x ≤ 9223372036854775807 := by unfold wrap64; omega
theorem wrap64_addl (x y : Int) : wrap64 (wrap64 x + y) = wrap64 (x + y) := by unfold wrap64; omega
theorem wrap64_addr (x y : Int) : wrap64 (x + wrap64 y) = wrap64 (x + y) := by unfold wrap64; omega
theorem wrap64_mull (x y : Int) : wrap64 (wrap64 x * y) = wrap64 (x * y) := by
  obtain ⟨k, hk⟩ := wrap64_ex x
  rw [hk]
  exact wrap64_of _ _ (k * y) (by rw [Int.add_mul, Int.mul_assoc])
theorem wrap64_mulr (x y : Int) : wrap64 (x * wrap64 y) = wrap64 (x * y) := by
  rw [Int.mul_comm, wrap64_mull, Int.mul_comm]
theorem wf_bounds {a : Int} (h : (Lit.int .i64 a).wf = true) : -9223372036854775808 ≤ a ∧ a ≤ 9223372036854775807 := by
  simpa [Lit.wf, IntKind.min, IntKind.max, IntKind.bits, IntKind.signed] using h
theorem wrap64_id (n : Int) (h : -9223372036854775808 ≤ n) (g : n ≤ 9223372036854775807) : wrap64 n = n := by unfold wrap64; omega
theorem tmod_size (a b : Int) (h : b ≠ 0) : (0 < b → -b < a.tmod b ∧ a.tmod b < b) ∧ (b < 0 → b < a.tmod b ∧ a.tmod b < -b) := by
  have h1 := Int.natAbs_tmod a b
  have h2 : a.natAbs % b.natAbs < b.natAbs := Nat.mod_lt _ (by omega)
  constructor <;> intro _ <;> omega
theorem tmod_sign (a b : Int) : (0 ≤ a → 0 ≤ a.tmod b) ∧ (a ≤ 0 → a.tmod b ≤ 0) := by
  refine ⟨fun h => Int.tmod_nonneg b h, fun h => ?_⟩
  have h1 := Int.tmod_nonneg (a := -a) b (by omega)
  rw [Int.neg_tmod] at h1
  omega
theorem wf_ubounds {a : Int} (h : (Lit.int .u64 a).wf = true) : 0 ≤ a ∧ a < 18446744073709551616 := by
  have h2 : 0 ≤ a ∧ a ≤ 18446744073709551615 := by simpa [Lit.wf, IntKind.min, IntKind.max, IntKind.bits, IntKind.signed] using h
  omega
end Go.Proofs.Ytklpifammbnldaa.wrapped
/- A search by bits: what was done is a number. -/
namespace Go.Proofs.Ytklpifammbnldaa.pg
open Go.RowKit
open Go.Proofs.Ytklpifammbnldaa.wrapped
set_option linter.unusedVariables false
/-- Which are done, by a number's bits. -/
def fD (D : Nat) : Nat → Bool := fun b => D.testBit b
theorem fD_zero : fD 0 = fun _ => false := by
  funext b
  simp [fD]
theorem fD_set (D i : Nat) : fD (D ||| 2 ^ i) = setD (fD D) i := by
  funext b
  unfold fD setD
  rw [Nat.testBit_or, Nat.testBit_two_pow]
  by_cases e : b = i
  · rw [if_pos e, decide_eq_true e.symm, Bool.or_true]
  · rw [if_neg e, decide_eq_false fun q => e q.symm, Bool.or_false]
theorem orD_lt {D i : Nat} (hD : D < 256) (hi : i < 8) : D ||| 2 ^ i < 256 := Nat.or_lt_two_pow (n := 8) hD (Nat.pow_lt_pow_right (by decide) hi)
/-- May an operation come next, as the document asks it? -/
def mayR (rel : Cl → Cl → Bool) (h : List Cl) (f : Nat → Bool) (i : Nat) : Bool := !f i && (List.range h.length).all fun j => (j == i) || (!(rel (hf h j) (hf h i) && !f j && !(hf h j).pend) && !(rel (hf h i) (hf h j) && f j))
/-- All that must stand ahead of what is done is done. -/
def closD (rel : Cl → Cl → Bool) (h : List Cl) (f : Nat → Bool) : Prop := ∀ i j, i < h.length → j < h.length → rel (hf h i) (hf h j) = true → f j = true → f i = true
theorem closD_zero (rel : Cl → Cl → Bool) (h : List Cl) : closD rel h fun _ => false := fun _ _ _ _ _ q => by cases q
/-- What a relation of a right history is. -/
structure RelD (rel : Cl → Cl → Bool) (h : List Cl) : Prop where
  irr : ∀ i, i < h.length → rel (hf h i) (hf h i) = false
  pe : ∀ i j, i < h.length → j < h.length → rel (hf h i) (hf h j) = true → (hf h i).pend = false
theorem relD_end {k : Int} {h : List Cl} (r : RightH k h) : RelD endB h := ⟨fun i hi => r.end_irr hi, fun _ _ _ _ q => end_pend q⟩
theorem relD_turn {k : Int} {h : List Cl} (r : RightH k h) : RelD turnB h := ⟨fun i hi => turn_irr _, fun i j hi hj q => end_pend (r.turn_end hi hj q)⟩
theorem closD_next {rel : Cl → Cl → Bool} {h : List Cl} {f : Nat → Bool} {i : Nat} (hc : closD rel h f) (hm : mayB rel h f i = true) : closD rel h (setD f i) := by
  intro a b ha hb hr hf'
  unfold setD at hf' ⊢
  by_cases e : a = i
  · rw [if_pos e]
  · rw [if_neg e]
    by_cases e2 : b = i
    · subst e2
      exact (mayB_at hm).2 a ha hr
    · rw [if_neg e2] at hf'
      exact hc a b ha hb hr hf'
theorem mayR_eq {rel : Cl → Cl → Bool} {h : List Cl} (hr : RelD rel h) {f : Nat → Bool} (hc : closD rel h f) {i : Nat} (hi : i < h.length) : mayR rel h f i = mayB rel h f i := by
  unfold mayR mayB
  cases hfi : f i with
  | true => rfl
  | false =>
    simp only [Bool.not_false, Bool.true_and]
    rw [Bool.eq_iff_iff, List.all_eq_true, List.all_eq_true]
    constructor <;> intro q j hj
    · have hj' := List.mem_range.mp hj
      have q1 := q j hj
      by_cases e : j = i
      · subst e
        rw [hr.irr j hi]; rfl
      · rw [beq_eq_false_iff_ne.mpr e, Bool.false_or, Bool.and_eq_true] at q1
        cases e1 : rel (hf h j) (hf h i) with
        | false => rfl
        | true =>
          have := hr.pe j i hj' hi e1
          rw [e1, this] at q1
          simpa using q1.1
    · have hj' := List.mem_range.mp hj
      have q1 := q j hj
      by_cases e : j = i
      · rw [beq_iff_eq.mpr e, Bool.true_or]
      · rw [beq_eq_false_iff_ne.mpr e, Bool.false_or, Bool.and_eq_true]
        constructor
        · cases e1 : rel (hf h j) (hf h i) with
          | false => rfl
          | true =>
            rw [e1] at q1
            have : f j = true := by simpa using q1
            rw [this]; rfl
        · cases e1 : rel (hf h i) (hf h j) with
          | false => rfl
          | true =>
            cases e2 : f j with
            | false => rfl
            | true => rw [hc i j hi hj' e1 e2] at hfi; cases hfi
/-- What was tried in vain, by numbers. -/
def vainD (k : Int) (rel : Cl → Cl → Bool) (h : List Cl) (T : List (Nat × List Int)) : Prop := ∀ q ∈ T, fsB k rel h (fD q.1) q.2 = none
set_option maxRecDepth 100000
theorem toNat_ofInt64 (m : Nat) (h : m < 2 ^ 32) : (BitVec.ofInt IntKind.i64.bits (m : Int)).toNat = m := by
  show (BitVec.ofInt 64 (m : Int)).toNat = m
  rw [BitVec.toNat_ofInt]
  have : ((m : Int) % (2 ^ 64 : Nat)) = m := by omega
  rw [this]
  exact Int.toNat_natCast m
theorem wrap64_nat (m : Int) (h0 : 0 ≤ m) (h : m < 4294967296) : wrap64 m = m := by
  unfold wrap64
  omega
theorem wrap_nat (m : Nat) (h : m < 2 ^ 32) : IntKind.i64.wrap (m : Int) = m := by
  rw [IntKind.wrap_i64]
  have := wrap64_nat m (Int.natCast_nonneg m) (by omega)
  unfold wrap64 at this
  exact this
theorem bits_andN (m n : Nat) (hm : m < 2 ^ 32) (hn : n < 2 ^ 32) : bits .and .i64 (m : Int) (n : Int) = ((m &&& n : Nat) : Int) := by
  show IntKind.i64.wrap (((BitVec.ofInt IntKind.i64.bits (m : Int)) &&& (BitVec.ofInt IntKind.i64.bits (n : Int))).toNat : Int) = _
  rw [BitVec.toNat_and, toNat_ofInt64 m hm, toNat_ofInt64 n hn]
  exact wrap_nat _ (Nat.lt_of_le_of_lt Nat.and_le_left hm)
theorem bits_orN (m n : Nat) (hm : m < 2 ^ 32) (hn : n < 2 ^ 32) : bits .or .i64 (m : Int) (n : Int) = ((m ||| n : Nat) : Int) := by
  show IntKind.i64.wrap (((BitVec.ofInt IntKind.i64.bits (m : Int)) ||| (BitVec.ofInt IntKind.i64.bits (n : Int))).toNat : Int) = _
  rw [BitVec.toNat_or, toNat_ofInt64 m hm, toNat_ofInt64 n hn]
  exact wrap_nat _ (Nat.or_lt_two_pow hm hn)
theorem bit_at {D i : Nat} (hD : D < 256) (hi : i < 8) : bits .and .i64 ((D : Int) / 2 ^ min i 64) 1 = if fD D i then 1 else 0 := by
  have e1 : min i 64 = i := by omega
  have e2 : (D : Int) / 2 ^ i = ((D / 2 ^ i : Nat) : Int) := by
    rw [Int.natCast_ediv]; push_cast; rfl
  have h1 : D / 2 ^ i < 2 ^ 32 := Nat.lt_of_le_of_lt (Nat.div_le_self _ _) (by omega)
  rw [e1, e2, show (1 : Int) = ((1 : Nat) : Int) from rfl, bits_andN _ _ h1 (by decide), Nat.and_one_is_mod]
  unfold fD
  rw [Nat.testBit_eq_decide_div_mod_eq]
  have : D / 2 ^ i % 2 = 0 ∨ D / 2 ^ i % 2 = 1 := by omega
  rcases this with q | q <;> rw [q] <;> rfl
theorem shl_at {i : Nat} (hi : i < 8) : wrap64 (2 ^ min i 64) = ((2 ^ i : Nat) : Int) := by
  have e1 : min i 64 = i := by omega
  have e3 : 2 ^ i ≤ 2 ^ 7 := Nat.pow_le_pow_right (by decide) (by omega)
  rw [e1, show (2 : Int) ^ i = ((2 ^ i : Nat) : Int) by push_cast; rfl]
  generalize 2 ^ i = p at *
  exact wrap64_id _ (by omega) (by omega)
theorem or_at {D i : Nat} (hD : D < 256) (hi : i < 8) : bits .or .i64 (D : Int) ((2 ^ i : Nat) : Int) = ((D ||| 2 ^ i : Nat) : Int) :=
  bits_orN _ _ (by omega) (Nat.lt_of_le_of_lt (Nat.pow_le_pow_right (by decide) (Nat.le_of_lt hi)) (by decide))
end Go.Proofs.Ytklpifammbnldaa.pg
/- The document's own search: how it stands, and what it asks of a place. -/
namespace Go.Proofs.Ytklpifammbnldaa.pg
open Go.ChangeShapes Go.WideShapes Go.ChangeAt Go.RowKit
set_option linter.unusedVariables false
set_option linter.unusedSimpArgs false
set_option maxRecDepth 100000
attribute [local go_sem ↓] Go.wp_at_zero Go.wp_at_succ
abbrev TS6 : TypeId := 72
abbrev oSd (k : Int) (ha : Option Addr) (n hc : Nat) (tm : Bool) (oa : Option Addr) (on oc : Nat) : Obj := .cells #[.int .i64 k, .slice ha n hc, .bool tm, .slice oa on oc] TS6
/-- The relation that a search keeps. -/
def relT (tm : Bool) : Cl → Cl → Bool := if tm then endB else turnB
section
variable {k : Int} {ha oa : Option Addr} {h : List Cl} {hc on oc S : Nat} {w : World}
theorem sd_cells {tm : Bool} {n : Nat} (hs : w.heap[S]? = some (oSd k ha n hc tm oa on oc)) : w.cell? ⟨S, 0, none⟩ = some (.int .i64 k) ∧ w.cell? ⟨S, 1, none⟩ = some (.slice ha n hc) ∧ w.cell? ⟨S, 2, none⟩ = some (.bool tm) ∧ w.cell? ⟨S, 3, none⟩ = some (.slice oa on oc) := ⟨cell_lc (k := 0) hs rfl, cell_lc (k := 1) hs rfl, cell_lc (k := 2) hs rfl, cell_lc (k := 3) hs rfl⟩
set_option maxHeartbeats 4000000 in
theorem before_end {i j : Nat} (hs : w.heap[S]? = some (oSd k ha h.length hc true oa on oc)) (hh : Rows w 7 ha hc (h.map Cl.cells)) (hi : i < h.length) (hj : j < h.length) : Calls Try.prog 67 #[.pointer (some ⟨S, 0, none⟩), .int .i64 (i : Int), .int .i64 (j : Int)] w fun e w' => e = .returned (.bool (endB (hf h i) (hf h j))) ∧ Below w.heap.size w w' := by
  obtain ⟨b1, o1, x1, hl1, r1⟩ := cl_ix hh hi
  obtain ⟨b2, o2, x2, hl2, r2⟩ := cl_ix hh hj
  generalize hf h i = x at *
  generalize hf h j = y at *
  obtain ⟨k0, k1, k2, k3⟩ := sd_cells hs
  have hRd : Hid (∀ w', Below w.heap.size w w' → w'.cell? ⟨S, 1, none⟩ = some (.slice ha h.length hc) ∧ w'.rangeAt b1 o1 x.cells ∧ w'.rangeAt b2 o2 y.cells) := fun w' q => ⟨(sd_cells (blk_on hs q)).2.1, range_blk r1 (q.block _ hl1), range_blk r2 (q.block _ hl2)⟩
  clear hs hh r1 r2 hl1 hl2
  go_enter Try.func67, Try.ntmps67
  go_upto_region 2 with fail
  have hS : Hid (Below w.heap.size w w.drew) := bey_drew w
  clear k0 k1 k2 k3
  refine wp_region_noPanic ?_
  refine wp_region_held_drew (S := fun w' => Below w.heap.size w w') (by kernel_rfl) hS.out (fun _ => ?_)
  refine reg_move (i := 0) rfl (by kernel_rfl) (by kernel_rfl) (by kernel_rfl) (fun _ _ _ _ h => h) rfl (.pointer (some ⟨S, 0, none⟩)) (fun _ => rfl) hS.out ?_
  simp only [Act.put, List.getElem_toArray, List.getElem_cons_succ, List.getElem_cons_zero, List.setIfInBounds_toArray, List.set_cons_zero, List.set_cons_succ]
  refine reg_move (i := 1) rfl (by kernel_rfl) (by kernel_rfl) (by kernel_rfl) (fun _ _ _ _ h => h) rfl (.pointer (some ⟨S, 0, none⟩)) (fun _ => rfl) hS.out ?_
  simp only [Act.put, List.getElem_toArray, List.getElem_cons_succ, List.getElem_cons_zero, List.setIfInBounds_toArray, List.set_cons_zero, List.set_cons_succ]
  refine reg_move (i := 2) rfl (by kernel_rfl) (by kernel_rfl) (by kernel_rfl) (fun _ _ _ _ h => h) rfl (.pointer (some ⟨S, 1, none⟩)) (fun _ => rfl) hS.out ?_
  simp only [Act.put, List.getElem_toArray, List.getElem_cons_succ, List.getElem_cons_zero, List.setIfInBounds_toArray, List.set_cons_zero, List.set_cons_succ]
  refine reg_load1 (i := 3) rfl (by kernel_rfl) (by kernel_rfl) (by kernel_rfl) (fun _ _ _ _ h => h) rfl 22 _ rfl ⟨S, 1, none⟩ rfl _ Try.underlying22 rfl (.slice ha h.length hc) (fun w' q => (hRd.out w' q).1) hS.out ?_
  simp only [Act.put, List.getElem_toArray, List.getElem_cons_succ, List.getElem_cons_zero, List.setIfInBounds_toArray, List.set_cons_zero, List.set_cons_succ]
  refine reg_move (i := 4) rfl (by kernel_rfl) (by kernel_rfl) (by kernel_rfl) (fun _ _ _ _ h => h) rfl (.int .i64 (i : Int)) (fun _ => rfl) hS.out ?_
  simp only [Act.put, List.getElem_toArray, List.getElem_cons_succ, List.getElem_cons_zero, List.setIfInBounds_toArray, List.set_cons_zero, List.set_cons_succ]
  refine reg_move (i := 5) rfl (by kernel_rfl) (by kernel_rfl) (by kernel_rfl) (fun _ _ _ _ h => h) rfl (.pointer (some ⟨b1, o1, none⟩)) (fun wx => by unfold execOp; exact run_value_of (x1 wx)) hS.out ?_
  simp only [Act.put, List.getElem_toArray, List.getElem_cons_succ, List.getElem_cons_zero, List.setIfInBounds_toArray, List.set_cons_zero, List.set_cons_succ]
  refine reg_load (i := 6) rfl (by kernel_rfl) (by kernel_rfl) (by kernel_rfl) (fun _ _ _ _ h => h) rfl 53 _ rfl b1 o1 rfl x.cells _ (fun w' q => (hRd.out w' q).2.1) Try.underlying53 rfl infoX hS.out ?_
  simp only [Act.put, List.getElem_toArray, List.getElem_cons_succ, List.getElem_cons_zero, List.setIfInBounds_toArray, List.set_cons_zero, List.set_cons_succ]
  refine reg_move (i := 7) rfl (by kernel_rfl) (by kernel_rfl) (by kernel_rfl) (fun _ _ _ _ h => h) rfl (.pointer (some ⟨S, 0, none⟩)) (fun _ => rfl) hS.out ?_
  simp only [Act.put, List.getElem_toArray, List.getElem_cons_succ, List.getElem_cons_zero, List.setIfInBounds_toArray, List.set_cons_zero, List.set_cons_succ]
  refine reg_move (i := 8) rfl (by kernel_rfl) (by kernel_rfl) (by kernel_rfl) (fun _ _ _ _ h => h) rfl (.pointer (some ⟨S, 0, none⟩)) (fun _ => rfl) hS.out ?_
  simp only [Act.put, List.getElem_toArray, List.getElem_cons_succ, List.getElem_cons_zero, List.setIfInBounds_toArray, List.set_cons_zero, List.set_cons_succ]
  refine reg_move (i := 9) rfl (by kernel_rfl) (by kernel_rfl) (by kernel_rfl) (fun _ _ _ _ h => h) rfl (.pointer (some ⟨S, 1, none⟩)) (fun _ => rfl) hS.out ?_
  simp only [Act.put, List.getElem_toArray, List.getElem_cons_succ, List.getElem_cons_zero, List.setIfInBounds_toArray, List.set_cons_zero, List.set_cons_succ]
  refine reg_load1 (i := 10) rfl (by kernel_rfl) (by kernel_rfl) (by kernel_rfl) (fun _ _ _ _ h => h) rfl 22 _ rfl ⟨S, 1, none⟩ rfl _ Try.underlying22 rfl (.slice ha h.length hc) (fun w' q => (hRd.out w' q).1) hS.out ?_
  simp only [Act.put, List.getElem_toArray, List.getElem_cons_succ, List.getElem_cons_zero, List.setIfInBounds_toArray, List.set_cons_zero, List.set_cons_succ]
  refine reg_move (i := 11) rfl (by kernel_rfl) (by kernel_rfl) (by kernel_rfl) (fun _ _ _ _ h => h) rfl (.int .i64 (j : Int)) (fun _ => rfl) hS.out ?_
  simp only [Act.put, List.getElem_toArray, List.getElem_cons_succ, List.getElem_cons_zero, List.setIfInBounds_toArray, List.set_cons_zero, List.set_cons_succ]
  refine reg_move (i := 12) rfl (by kernel_rfl) (by kernel_rfl) (by kernel_rfl) (fun _ _ _ _ h => h) rfl (.pointer (some ⟨b2, o2, none⟩)) (fun wx => by unfold execOp; exact run_value_of (x2 wx)) hS.out ?_
  simp only [Act.put, List.getElem_toArray, List.getElem_cons_succ, List.getElem_cons_zero, List.setIfInBounds_toArray, List.set_cons_zero, List.set_cons_succ]
  refine reg_load (i := 13) rfl (by kernel_rfl) (by kernel_rfl) (by kernel_rfl) (fun _ _ _ _ h => h) rfl 53 _ rfl b2 o2 rfl y.cells _ (fun w' q => (hRd.out w' q).2.2) Try.underlying53 rfl infoX hS.out ?_
  simp only [Act.put, List.getElem_toArray, List.getElem_cons_succ, List.getElem_cons_zero, List.setIfInBounds_toArray, List.set_cons_zero, List.set_cons_succ]
  refine reg_call2 (i := 14) (by kernel_rfl) rfl rfl 27 _ _ _ _ rfl x.val y.val rfl rfl (cf_fn Try.func27 (by kernel_rfl) (by kernel_rfl) _ _) _ (rahead_any x y _) ?_
  rintro e1 X1 ⟨rfl, hb1⟩
  have hb2 : Hid (Below w.heap.size w X1) := bthen hS.out hb1
  refine ⟨_, rfl, hb2.out, fun _ => ?_⟩
  simp only [Act.put, List.getElem_toArray, List.getElem_cons_succ, List.getElem_cons_zero, List.setIfInBounds_toArray, List.set_cons_zero, List.set_cons_succ]
  refine reg_move (i := 15) rfl (by kernel_rfl) (by kernel_rfl) (by kernel_rfl) (fun _ _ _ _ h => h) rfl (.bool (endB x y)) (fun _ => rfl) hb2.out ?_
  simp only [Act.put, List.getElem_toArray, List.getElem_cons_succ, List.getElem_cons_zero, List.setIfInBounds_toArray, List.set_cons_zero, List.set_cons_succ]
  refine wpAnyH_done (by kernel_rfl) (NoPanic.normal ?_) _
  go_wp2
  go_ret
  exact ⟨rfl, hb2.out⟩
set_option maxHeartbeats 4000000 in
theorem before_turn {i j : Nat} (hs : w.heap[S]? = some (oSd k ha h.length hc false oa on oc)) (hh : Rows w 7 ha hc (h.map Cl.cells)) (hi : i < h.length) (hj : j < h.length) : Calls Try.prog 67 #[.pointer (some ⟨S, 0, none⟩), .int .i64 (i : Int), .int .i64 (j : Int)] w fun e w' => e = .returned (.bool (turnB (hf h i) (hf h j))) ∧ Below w.heap.size w w' := by
  obtain ⟨b1, o1, x1, hl1, r1⟩ := cl_ix hh hi
  obtain ⟨b2, o2, x2, hl2, r2⟩ := cl_ix hh hj
  generalize hf h i = x at *
  generalize hf h j = y at *
  obtain ⟨k0, k1, k2, k3⟩ := sd_cells hs
  have hRd : Hid (∀ w', Below w.heap.size w w' → w'.cell? ⟨S, 1, none⟩ = some (.slice ha h.length hc) ∧ w'.rangeAt b1 o1 x.cells ∧ w'.rangeAt b2 o2 y.cells) := fun w' q => ⟨(sd_cells (blk_on hs q)).2.1, range_blk r1 (q.block _ hl1), range_blk r2 (q.block _ hl2)⟩
  clear hs hh r1 r2 hl1 hl2
  go_enter Try.func67, Try.ntmps67
  go_upto_region 3 with fail
  have hS : Hid (Below w.heap.size w w.drew) := bey_drew w
  clear k0 k1 k2 k3
  refine wp_region_noPanic ?_
  refine wp_region_held_drew (S := fun w' => Below w.heap.size w w') (by kernel_rfl) hS.out (fun _ => ?_)
  cases hg : (x.go == y.go) with
  | true =>
    refine reg_move (i := 0) rfl (by kernel_rfl) (by kernel_rfl) (by kernel_rfl) (fun _ _ _ _ h => h) rfl (.pointer (some ⟨S, 0, none⟩)) (fun _ => rfl) hS.out ?_
    simp only [Act.put, List.getElem_toArray, List.getElem_cons_succ, List.getElem_cons_zero, List.setIfInBounds_toArray, List.set_cons_zero, List.set_cons_succ]
    refine reg_move (i := 1) rfl (by kernel_rfl) (by kernel_rfl) (by kernel_rfl) (fun _ _ _ _ h => h) rfl (.pointer (some ⟨S, 0, none⟩)) (fun _ => rfl) hS.out ?_
    simp only [Act.put, List.getElem_toArray, List.getElem_cons_succ, List.getElem_cons_zero, List.setIfInBounds_toArray, List.set_cons_zero, List.set_cons_succ]
    refine reg_move (i := 2) rfl (by kernel_rfl) (by kernel_rfl) (by kernel_rfl) (fun _ _ _ _ h => h) rfl (.pointer (some ⟨S, 1, none⟩)) (fun _ => rfl) hS.out ?_
    simp only [Act.put, List.getElem_toArray, List.getElem_cons_succ, List.getElem_cons_zero, List.setIfInBounds_toArray, List.set_cons_zero, List.set_cons_succ]
    refine reg_load1 (i := 3) rfl (by kernel_rfl) (by kernel_rfl) (by kernel_rfl) (fun _ _ _ _ h => h) rfl 22 _ rfl ⟨S, 1, none⟩ rfl _ Try.underlying22 rfl (.slice ha h.length hc) (fun w' q => (hRd.out w' q).1) hS.out ?_
    simp only [Act.put, List.getElem_toArray, List.getElem_cons_succ, List.getElem_cons_zero, List.setIfInBounds_toArray, List.set_cons_zero, List.set_cons_succ]
    refine reg_move (i := 4) rfl (by kernel_rfl) (by kernel_rfl) (by kernel_rfl) (fun _ _ _ _ h => h) rfl (.int .i64 (i : Int)) (fun _ => rfl) hS.out ?_
    simp only [Act.put, List.getElem_toArray, List.getElem_cons_succ, List.getElem_cons_zero, List.setIfInBounds_toArray, List.set_cons_zero, List.set_cons_succ]
    refine reg_move (i := 5) rfl (by kernel_rfl) (by kernel_rfl) (by kernel_rfl) (fun _ _ _ _ h => h) rfl (.pointer (some ⟨b1, o1, none⟩)) (fun wx => by unfold execOp; exact run_value_of (x1 wx)) hS.out ?_
    simp only [Act.put, List.getElem_toArray, List.getElem_cons_succ, List.getElem_cons_zero, List.setIfInBounds_toArray, List.set_cons_zero, List.set_cons_succ]
    refine reg_move (i := 6) rfl (by kernel_rfl) (by kernel_rfl) (by kernel_rfl) (fun _ _ _ _ h => h) rfl (.pointer (some ⟨b1, o1 + 0, none⟩)) (fun _ => rfl) hS.out ?_
    simp only [Act.put, List.getElem_toArray, List.getElem_cons_succ, List.getElem_cons_zero, List.setIfInBounds_toArray, List.set_cons_zero, List.set_cons_succ]
    refine reg_load1 (i := 7) rfl (by kernel_rfl) (by kernel_rfl) (by kernel_rfl) (fun _ _ _ _ h => h) rfl 3 _ rfl ⟨b1, o1 + 0, none⟩ rfl _ Try.underlying3 rfl (.int .i64 x.go) (fun w' q => (hRd.out w' q).2.1 0 _ rfl) hS.out ?_
    simp only [Act.put, List.getElem_toArray, List.getElem_cons_succ, List.getElem_cons_zero, List.setIfInBounds_toArray, List.set_cons_zero, List.set_cons_succ]
    refine reg_move (i := 8) rfl (by kernel_rfl) (by kernel_rfl) (by kernel_rfl) (fun _ _ _ _ h => h) rfl (.pointer (some ⟨S, 0, none⟩)) (fun _ => rfl) hS.out ?_
    simp only [Act.put, List.getElem_toArray, List.getElem_cons_succ, List.getElem_cons_zero, List.setIfInBounds_toArray, List.set_cons_zero, List.set_cons_succ]
    refine reg_move (i := 9) rfl (by kernel_rfl) (by kernel_rfl) (by kernel_rfl) (fun _ _ _ _ h => h) rfl (.pointer (some ⟨S, 0, none⟩)) (fun _ => rfl) hS.out ?_
    simp only [Act.put, List.getElem_toArray, List.getElem_cons_succ, List.getElem_cons_zero, List.setIfInBounds_toArray, List.set_cons_zero, List.set_cons_succ]
    refine reg_move (i := 10) rfl (by kernel_rfl) (by kernel_rfl) (by kernel_rfl) (fun _ _ _ _ h => h) rfl (.pointer (some ⟨S, 1, none⟩)) (fun _ => rfl) hS.out ?_
    simp only [Act.put, List.getElem_toArray, List.getElem_cons_succ, List.getElem_cons_zero, List.setIfInBounds_toArray, List.set_cons_zero, List.set_cons_succ]
    refine reg_load1 (i := 11) rfl (by kernel_rfl) (by kernel_rfl) (by kernel_rfl) (fun _ _ _ _ h => h) rfl 22 _ rfl ⟨S, 1, none⟩ rfl _ Try.underlying22 rfl (.slice ha h.length hc) (fun w' q => (hRd.out w' q).1) hS.out ?_
    simp only [Act.put, List.getElem_toArray, List.getElem_cons_succ, List.getElem_cons_zero, List.setIfInBounds_toArray, List.set_cons_zero, List.set_cons_succ]
    refine reg_move (i := 12) rfl (by kernel_rfl) (by kernel_rfl) (by kernel_rfl) (fun _ _ _ _ h => h) rfl (.int .i64 (j : Int)) (fun _ => rfl) hS.out ?_
    simp only [Act.put, List.getElem_toArray, List.getElem_cons_succ, List.getElem_cons_zero, List.setIfInBounds_toArray, List.set_cons_zero, List.set_cons_succ]
    refine reg_move (i := 13) rfl (by kernel_rfl) (by kernel_rfl) (by kernel_rfl) (fun _ _ _ _ h => h) rfl (.pointer (some ⟨b2, o2, none⟩)) (fun wx => by unfold execOp; exact run_value_of (x2 wx)) hS.out ?_
    simp only [Act.put, List.getElem_toArray, List.getElem_cons_succ, List.getElem_cons_zero, List.setIfInBounds_toArray, List.set_cons_zero, List.set_cons_succ]
    refine reg_move (i := 14) rfl (by kernel_rfl) (by kernel_rfl) (by kernel_rfl) (fun _ _ _ _ h => h) rfl (.pointer (some ⟨b2, o2 + 0, none⟩)) (fun _ => rfl) hS.out ?_
    simp only [Act.put, List.getElem_toArray, List.getElem_cons_succ, List.getElem_cons_zero, List.setIfInBounds_toArray, List.set_cons_zero, List.set_cons_succ]
    refine reg_load1 (i := 15) rfl (by kernel_rfl) (by kernel_rfl) (by kernel_rfl) (fun _ _ _ _ h => h) rfl 3 _ rfl ⟨b2, o2 + 0, none⟩ rfl _ Try.underlying3 rfl (.int .i64 y.go) (fun w' q => (hRd.out w' q).2.2 0 _ rfl) hS.out ?_
    simp only [Act.put, List.getElem_toArray, List.getElem_cons_succ, List.getElem_cons_zero, List.setIfInBounds_toArray, List.set_cons_zero, List.set_cons_succ]
    refine reg_move (i := 16) rfl (by kernel_rfl) (by kernel_rfl) (by kernel_rfl) (fun _ _ _ _ h => h) rfl (.bool (x.go == y.go)) (fun _ => rfl) hS.out ?_
    simp only [Act.put, List.getElem_toArray, List.getElem_cons_succ, List.getElem_cons_zero, List.setIfInBounds_toArray, List.set_cons_zero, List.set_cons_succ]
    rw [hg]
    refine reg_move (i := 17) rfl (by kernel_rfl) (by kernel_rfl) (by kernel_rfl) (fun _ _ _ _ h => h) rfl (.bool true) (fun _ => rfl) hS.out ?_
    simp only [Act.put, List.getElem_toArray, List.getElem_cons_succ, List.getElem_cons_zero, List.setIfInBounds_toArray, List.set_cons_zero, List.set_cons_succ]
    refine reg_move (i := 18) rfl (by kernel_rfl) (by kernel_rfl) (by kernel_rfl) (fun _ _ _ _ h => h) rfl (.pointer (some ⟨S, 0, none⟩)) (fun _ => rfl) hS.out ?_
    simp only [Act.put, List.getElem_toArray, List.getElem_cons_succ, List.getElem_cons_zero, List.setIfInBounds_toArray, List.set_cons_zero, List.set_cons_succ]
    refine reg_move (i := 19) rfl (by kernel_rfl) (by kernel_rfl) (by kernel_rfl) (fun _ _ _ _ h => h) rfl (.pointer (some ⟨S, 0, none⟩)) (fun _ => rfl) hS.out ?_
    simp only [Act.put, List.getElem_toArray, List.getElem_cons_succ, List.getElem_cons_zero, List.setIfInBounds_toArray, List.set_cons_zero, List.set_cons_succ]
    refine reg_move (i := 20) rfl (by kernel_rfl) (by kernel_rfl) (by kernel_rfl) (fun _ _ _ _ h => h) rfl (.pointer (some ⟨S, 1, none⟩)) (fun _ => rfl) hS.out ?_
    simp only [Act.put, List.getElem_toArray, List.getElem_cons_succ, List.getElem_cons_zero, List.setIfInBounds_toArray, List.set_cons_zero, List.set_cons_succ]
    refine reg_load1 (i := 21) rfl (by kernel_rfl) (by kernel_rfl) (by kernel_rfl) (fun _ _ _ _ h => h) rfl 22 _ rfl ⟨S, 1, none⟩ rfl _ Try.underlying22 rfl (.slice ha h.length hc) (fun w' q => (hRd.out w' q).1) hS.out ?_
    simp only [Act.put, List.getElem_toArray, List.getElem_cons_succ, List.getElem_cons_zero, List.setIfInBounds_toArray, List.set_cons_zero, List.set_cons_succ]
    refine reg_move (i := 22) rfl (by kernel_rfl) (by kernel_rfl) (by kernel_rfl) (fun _ _ _ _ h => h) rfl (.int .i64 (i : Int)) (fun _ => rfl) hS.out ?_
    simp only [Act.put, List.getElem_toArray, List.getElem_cons_succ, List.getElem_cons_zero, List.setIfInBounds_toArray, List.set_cons_zero, List.set_cons_succ]
    refine reg_move (i := 23) rfl (by kernel_rfl) (by kernel_rfl) (by kernel_rfl) (fun _ _ _ _ h => h) rfl (.pointer (some ⟨b1, o1, none⟩)) (fun wx => by unfold execOp; exact run_value_of (x1 wx)) hS.out ?_
    simp only [Act.put, List.getElem_toArray, List.getElem_cons_succ, List.getElem_cons_zero, List.setIfInBounds_toArray, List.set_cons_zero, List.set_cons_succ]
    refine reg_move (i := 24) rfl (by kernel_rfl) (by kernel_rfl) (by kernel_rfl) (fun _ _ _ _ h => h) rfl (.pointer (some ⟨b1, o1 + 5, none⟩)) (fun _ => rfl) hS.out ?_
    simp only [Act.put, List.getElem_toArray, List.getElem_cons_succ, List.getElem_cons_zero, List.setIfInBounds_toArray, List.set_cons_zero, List.set_cons_succ]
    refine reg_load1 (i := 25) rfl (by kernel_rfl) (by kernel_rfl) (by kernel_rfl) (fun _ _ _ _ h => h) rfl 3 _ rfl ⟨b1, o1 + 5, none⟩ rfl _ Try.underlying3 rfl (.int .i64 x.bg) (fun w' q => (hRd.out w' q).2.1 5 _ rfl) hS.out ?_
    simp only [Act.put, List.getElem_toArray, List.getElem_cons_succ, List.getElem_cons_zero, List.setIfInBounds_toArray, List.set_cons_zero, List.set_cons_succ]
    refine reg_move (i := 26) rfl (by kernel_rfl) (by kernel_rfl) (by kernel_rfl) (fun _ _ _ _ h => h) rfl (.pointer (some ⟨S, 0, none⟩)) (fun _ => rfl) hS.out ?_
    simp only [Act.put, List.getElem_toArray, List.getElem_cons_succ, List.getElem_cons_zero, List.setIfInBounds_toArray, List.set_cons_zero, List.set_cons_succ]
    refine reg_move (i := 27) rfl (by kernel_rfl) (by kernel_rfl) (by kernel_rfl) (fun _ _ _ _ h => h) rfl (.pointer (some ⟨S, 0, none⟩)) (fun _ => rfl) hS.out ?_
    simp only [Act.put, List.getElem_toArray, List.getElem_cons_succ, List.getElem_cons_zero, List.setIfInBounds_toArray, List.set_cons_zero, List.set_cons_succ]
    refine reg_move (i := 28) rfl (by kernel_rfl) (by kernel_rfl) (by kernel_rfl) (fun _ _ _ _ h => h) rfl (.pointer (some ⟨S, 1, none⟩)) (fun _ => rfl) hS.out ?_
    simp only [Act.put, List.getElem_toArray, List.getElem_cons_succ, List.getElem_cons_zero, List.setIfInBounds_toArray, List.set_cons_zero, List.set_cons_succ]
    refine reg_load1 (i := 29) rfl (by kernel_rfl) (by kernel_rfl) (by kernel_rfl) (fun _ _ _ _ h => h) rfl 22 _ rfl ⟨S, 1, none⟩ rfl _ Try.underlying22 rfl (.slice ha h.length hc) (fun w' q => (hRd.out w' q).1) hS.out ?_
    simp only [Act.put, List.getElem_toArray, List.getElem_cons_succ, List.getElem_cons_zero, List.setIfInBounds_toArray, List.set_cons_zero, List.set_cons_succ]
    refine reg_move (i := 30) rfl (by kernel_rfl) (by kernel_rfl) (by kernel_rfl) (fun _ _ _ _ h => h) rfl (.int .i64 (j : Int)) (fun _ => rfl) hS.out ?_
    simp only [Act.put, List.getElem_toArray, List.getElem_cons_succ, List.getElem_cons_zero, List.setIfInBounds_toArray, List.set_cons_zero, List.set_cons_succ]
    refine reg_move (i := 31) rfl (by kernel_rfl) (by kernel_rfl) (by kernel_rfl) (fun _ _ _ _ h => h) rfl (.pointer (some ⟨b2, o2, none⟩)) (fun wx => by unfold execOp; exact run_value_of (x2 wx)) hS.out ?_
    simp only [Act.put, List.getElem_toArray, List.getElem_cons_succ, List.getElem_cons_zero, List.setIfInBounds_toArray, List.set_cons_zero, List.set_cons_succ]
    refine reg_move (i := 32) rfl (by kernel_rfl) (by kernel_rfl) (by kernel_rfl) (fun _ _ _ _ h => h) rfl (.pointer (some ⟨b2, o2 + 5, none⟩)) (fun _ => rfl) hS.out ?_
    simp only [Act.put, List.getElem_toArray, List.getElem_cons_succ, List.getElem_cons_zero, List.setIfInBounds_toArray, List.set_cons_zero, List.set_cons_succ]
    refine reg_load1 (i := 33) rfl (by kernel_rfl) (by kernel_rfl) (by kernel_rfl) (fun _ _ _ _ h => h) rfl 3 _ rfl ⟨b2, o2 + 5, none⟩ rfl _ Try.underlying3 rfl (.int .i64 y.bg) (fun w' q => (hRd.out w' q).2.2 5 _ rfl) hS.out ?_
    simp only [Act.put, List.getElem_toArray, List.getElem_cons_succ, List.getElem_cons_zero, List.setIfInBounds_toArray, List.set_cons_zero, List.set_cons_succ]
    refine reg_move (i := 34) rfl (by kernel_rfl) (by kernel_rfl) (by kernel_rfl) (fun _ _ _ _ h => h) rfl (.bool (decide (x.bg < y.bg))) (fun _ => rfl) hS.out ?_
    simp only [Act.put, List.getElem_toArray, List.getElem_cons_succ, List.getElem_cons_zero, List.setIfInBounds_toArray, List.set_cons_zero, List.set_cons_succ]
    refine reg_move (i := 35) rfl (by kernel_rfl) (by kernel_rfl) (by kernel_rfl) (fun _ _ _ _ h => h) rfl (.bool (decide (x.bg < y.bg))) (fun _ => rfl) hS.out ?_
    simp only [Act.put, List.getElem_toArray, List.getElem_cons_succ, List.getElem_cons_zero, List.setIfInBounds_toArray, List.set_cons_zero, List.set_cons_succ]
    refine reg_move (i := 36) rfl (by kernel_rfl) (by kernel_rfl) (by kernel_rfl) (fun _ _ _ _ h => h) rfl (.bool (decide (x.bg < y.bg))) (fun _ => rfl) hS.out ?_
    simp only [Act.put, List.getElem_toArray, List.getElem_cons_succ, List.getElem_cons_zero, List.setIfInBounds_toArray, List.set_cons_zero, List.set_cons_succ]
    refine wpAnyH_done (by kernel_rfl) (NoPanic.normal ?_) _
    go_wp2
    go_ret
    exact ⟨by (unfold turnB; rw [hg, Bool.true_and]; rfl), hS.out⟩
  | false =>
    refine reg_move (i := 0) rfl (by kernel_rfl) (by kernel_rfl) (by kernel_rfl) (fun _ _ _ _ h => h) rfl (.pointer (some ⟨S, 0, none⟩)) (fun _ => rfl) hS.out ?_
    simp only [Act.put, List.getElem_toArray, List.getElem_cons_succ, List.getElem_cons_zero, List.setIfInBounds_toArray, List.set_cons_zero, List.set_cons_succ]
    refine reg_move (i := 1) rfl (by kernel_rfl) (by kernel_rfl) (by kernel_rfl) (fun _ _ _ _ h => h) rfl (.pointer (some ⟨S, 0, none⟩)) (fun _ => rfl) hS.out ?_
    simp only [Act.put, List.getElem_toArray, List.getElem_cons_succ, List.getElem_cons_zero, List.setIfInBounds_toArray, List.set_cons_zero, List.set_cons_succ]
    refine reg_move (i := 2) rfl (by kernel_rfl) (by kernel_rfl) (by kernel_rfl) (fun _ _ _ _ h => h) rfl (.pointer (some ⟨S, 1, none⟩)) (fun _ => rfl) hS.out ?_
    simp only [Act.put, List.getElem_toArray, List.getElem_cons_succ, List.getElem_cons_zero, List.setIfInBounds_toArray, List.set_cons_zero, List.set_cons_succ]
    refine reg_load1 (i := 3) rfl (by kernel_rfl) (by kernel_rfl) (by kernel_rfl) (fun _ _ _ _ h => h) rfl 22 _ rfl ⟨S, 1, none⟩ rfl _ Try.underlying22 rfl (.slice ha h.length hc) (fun w' q => (hRd.out w' q).1) hS.out ?_
    simp only [Act.put, List.getElem_toArray, List.getElem_cons_succ, List.getElem_cons_zero, List.setIfInBounds_toArray, List.set_cons_zero, List.set_cons_succ]
    refine reg_move (i := 4) rfl (by kernel_rfl) (by kernel_rfl) (by kernel_rfl) (fun _ _ _ _ h => h) rfl (.int .i64 (i : Int)) (fun _ => rfl) hS.out ?_
    simp only [Act.put, List.getElem_toArray, List.getElem_cons_succ, List.getElem_cons_zero, List.setIfInBounds_toArray, List.set_cons_zero, List.set_cons_succ]
    refine reg_move (i := 5) rfl (by kernel_rfl) (by kernel_rfl) (by kernel_rfl) (fun _ _ _ _ h => h) rfl (.pointer (some ⟨b1, o1, none⟩)) (fun wx => by unfold execOp; exact run_value_of (x1 wx)) hS.out ?_
    simp only [Act.put, List.getElem_toArray, List.getElem_cons_succ, List.getElem_cons_zero, List.setIfInBounds_toArray, List.set_cons_zero, List.set_cons_succ]
    refine reg_move (i := 6) rfl (by kernel_rfl) (by kernel_rfl) (by kernel_rfl) (fun _ _ _ _ h => h) rfl (.pointer (some ⟨b1, o1 + 0, none⟩)) (fun _ => rfl) hS.out ?_
    simp only [Act.put, List.getElem_toArray, List.getElem_cons_succ, List.getElem_cons_zero, List.setIfInBounds_toArray, List.set_cons_zero, List.set_cons_succ]
    refine reg_load1 (i := 7) rfl (by kernel_rfl) (by kernel_rfl) (by kernel_rfl) (fun _ _ _ _ h => h) rfl 3 _ rfl ⟨b1, o1 + 0, none⟩ rfl _ Try.underlying3 rfl (.int .i64 x.go) (fun w' q => (hRd.out w' q).2.1 0 _ rfl) hS.out ?_
    simp only [Act.put, List.getElem_toArray, List.getElem_cons_succ, List.getElem_cons_zero, List.setIfInBounds_toArray, List.set_cons_zero, List.set_cons_succ]
    refine reg_move (i := 8) rfl (by kernel_rfl) (by kernel_rfl) (by kernel_rfl) (fun _ _ _ _ h => h) rfl (.pointer (some ⟨S, 0, none⟩)) (fun _ => rfl) hS.out ?_
    simp only [Act.put, List.getElem_toArray, List.getElem_cons_succ, List.getElem_cons_zero, List.setIfInBounds_toArray, List.set_cons_zero, List.set_cons_succ]
    refine reg_move (i := 9) rfl (by kernel_rfl) (by kernel_rfl) (by kernel_rfl) (fun _ _ _ _ h => h) rfl (.pointer (some ⟨S, 0, none⟩)) (fun _ => rfl) hS.out ?_
    simp only [Act.put, List.getElem_toArray, List.getElem_cons_succ, List.getElem_cons_zero, List.setIfInBounds_toArray, List.set_cons_zero, List.set_cons_succ]
    refine reg_move (i := 10) rfl (by kernel_rfl) (by kernel_rfl) (by kernel_rfl) (fun _ _ _ _ h => h) rfl (.pointer (some ⟨S, 1, none⟩)) (fun _ => rfl) hS.out ?_
    simp only [Act.put, List.getElem_toArray, List.getElem_cons_succ, List.getElem_cons_zero, List.setIfInBounds_toArray, List.set_cons_zero, List.set_cons_succ]
    refine reg_load1 (i := 11) rfl (by kernel_rfl) (by kernel_rfl) (by kernel_rfl) (fun _ _ _ _ h => h) rfl 22 _ rfl ⟨S, 1, none⟩ rfl _ Try.underlying22 rfl (.slice ha h.length hc) (fun w' q => (hRd.out w' q).1) hS.out ?_
    simp only [Act.put, List.getElem_toArray, List.getElem_cons_succ, List.getElem_cons_zero, List.setIfInBounds_toArray, List.set_cons_zero, List.set_cons_succ]
    refine reg_move (i := 12) rfl (by kernel_rfl) (by kernel_rfl) (by kernel_rfl) (fun _ _ _ _ h => h) rfl (.int .i64 (j : Int)) (fun _ => rfl) hS.out ?_
    simp only [Act.put, List.getElem_toArray, List.getElem_cons_succ, List.getElem_cons_zero, List.setIfInBounds_toArray, List.set_cons_zero, List.set_cons_succ]
    refine reg_move (i := 13) rfl (by kernel_rfl) (by kernel_rfl) (by kernel_rfl) (fun _ _ _ _ h => h) rfl (.pointer (some ⟨b2, o2, none⟩)) (fun wx => by unfold execOp; exact run_value_of (x2 wx)) hS.out ?_
    simp only [Act.put, List.getElem_toArray, List.getElem_cons_succ, List.getElem_cons_zero, List.setIfInBounds_toArray, List.set_cons_zero, List.set_cons_succ]
    refine reg_move (i := 14) rfl (by kernel_rfl) (by kernel_rfl) (by kernel_rfl) (fun _ _ _ _ h => h) rfl (.pointer (some ⟨b2, o2 + 0, none⟩)) (fun _ => rfl) hS.out ?_
    simp only [Act.put, List.getElem_toArray, List.getElem_cons_succ, List.getElem_cons_zero, List.setIfInBounds_toArray, List.set_cons_zero, List.set_cons_succ]
    refine reg_load1 (i := 15) rfl (by kernel_rfl) (by kernel_rfl) (by kernel_rfl) (fun _ _ _ _ h => h) rfl 3 _ rfl ⟨b2, o2 + 0, none⟩ rfl _ Try.underlying3 rfl (.int .i64 y.go) (fun w' q => (hRd.out w' q).2.2 0 _ rfl) hS.out ?_
    simp only [Act.put, List.getElem_toArray, List.getElem_cons_succ, List.getElem_cons_zero, List.setIfInBounds_toArray, List.set_cons_zero, List.set_cons_succ]
    refine reg_move (i := 16) rfl (by kernel_rfl) (by kernel_rfl) (by kernel_rfl) (fun _ _ _ _ h => h) rfl (.bool (x.go == y.go)) (fun _ => rfl) hS.out ?_
    simp only [Act.put, List.getElem_toArray, List.getElem_cons_succ, List.getElem_cons_zero, List.setIfInBounds_toArray, List.set_cons_zero, List.set_cons_succ]
    rw [hg]
    refine reg_move (i := 17) rfl (by kernel_rfl) (by kernel_rfl) (by kernel_rfl) (fun _ _ _ _ h => h) rfl (.bool false) (fun _ => rfl) hS.out ?_
    simp only [Act.put, List.getElem_toArray, List.getElem_cons_succ, List.getElem_cons_zero, List.setIfInBounds_toArray, List.set_cons_zero, List.set_cons_succ]
    refine reg_skipL (i := 18) rfl (by kernel_rfl) (by kernel_rfl) (by kernel_rfl) (fun _ _ _ _ h => h) rfl hS.out ?_
    simp only [Act.put, List.getElem_toArray, List.getElem_cons_succ, List.getElem_cons_zero, List.setIfInBounds_toArray, List.set_cons_zero, List.set_cons_succ]
    refine reg_skipL (i := 19) rfl (by kernel_rfl) (by kernel_rfl) (by kernel_rfl) (fun _ _ _ _ h => h) rfl hS.out ?_
    simp only [Act.put, List.getElem_toArray, List.getElem_cons_succ, List.getElem_cons_zero, List.setIfInBounds_toArray, List.set_cons_zero, List.set_cons_succ]
    refine reg_skipL (i := 20) rfl (by kernel_rfl) (by kernel_rfl) (by kernel_rfl) (fun _ _ _ _ h => h) rfl hS.out ?_
    simp only [Act.put, List.getElem_toArray, List.getElem_cons_succ, List.getElem_cons_zero, List.setIfInBounds_toArray, List.set_cons_zero, List.set_cons_succ]
    refine reg_skipL (i := 21) rfl (by kernel_rfl) (by kernel_rfl) (by kernel_rfl) (fun _ _ _ _ h => h) rfl hS.out ?_
    simp only [Act.put, List.getElem_toArray, List.getElem_cons_succ, List.getElem_cons_zero, List.setIfInBounds_toArray, List.set_cons_zero, List.set_cons_succ]
    refine reg_skipL (i := 22) rfl (by kernel_rfl) (by kernel_rfl) (by kernel_rfl) (fun _ _ _ _ h => h) rfl hS.out ?_
    simp only [Act.put, List.getElem_toArray, List.getElem_cons_succ, List.getElem_cons_zero, List.setIfInBounds_toArray, List.set_cons_zero, List.set_cons_succ]
    refine reg_skipL (i := 23) rfl (by kernel_rfl) (by kernel_rfl) (by kernel_rfl) (fun _ _ _ _ h => h) rfl hS.out ?_
    simp only [Act.put, List.getElem_toArray, List.getElem_cons_succ, List.getElem_cons_zero, List.setIfInBounds_toArray, List.set_cons_zero, List.set_cons_succ]
    refine reg_skipL (i := 24) rfl (by kernel_rfl) (by kernel_rfl) (by kernel_rfl) (fun _ _ _ _ h => h) rfl hS.out ?_
    simp only [Act.put, List.getElem_toArray, List.getElem_cons_succ, List.getElem_cons_zero, List.setIfInBounds_toArray, List.set_cons_zero, List.set_cons_succ]
    refine reg_skipL (i := 25) rfl (by kernel_rfl) (by kernel_rfl) (by kernel_rfl) (fun _ _ _ _ h => h) rfl hS.out ?_
    simp only [Act.put, List.getElem_toArray, List.getElem_cons_succ, List.getElem_cons_zero, List.setIfInBounds_toArray, List.set_cons_zero, List.set_cons_succ]
    refine reg_skipL (i := 26) rfl (by kernel_rfl) (by kernel_rfl) (by kernel_rfl) (fun _ _ _ _ h => h) rfl hS.out ?_
    simp only [Act.put, List.getElem_toArray, List.getElem_cons_succ, List.getElem_cons_zero, List.setIfInBounds_toArray, List.set_cons_zero, List.set_cons_succ]
    refine reg_skipL (i := 27) rfl (by kernel_rfl) (by kernel_rfl) (by kernel_rfl) (fun _ _ _ _ h => h) rfl hS.out ?_
    simp only [Act.put, List.getElem_toArray, List.getElem_cons_succ, List.getElem_cons_zero, List.setIfInBounds_toArray, List.set_cons_zero, List.set_cons_succ]
    refine reg_skipL (i := 28) rfl (by kernel_rfl) (by kernel_rfl) (by kernel_rfl) (fun _ _ _ _ h => h) rfl hS.out ?_
    simp only [Act.put, List.getElem_toArray, List.getElem_cons_succ, List.getElem_cons_zero, List.setIfInBounds_toArray, List.set_cons_zero, List.set_cons_succ]
    refine reg_skipL (i := 29) rfl (by kernel_rfl) (by kernel_rfl) (by kernel_rfl) (fun _ _ _ _ h => h) rfl hS.out ?_
    simp only [Act.put, List.getElem_toArray, List.getElem_cons_succ, List.getElem_cons_zero, List.setIfInBounds_toArray, List.set_cons_zero, List.set_cons_succ]
    refine reg_skipL (i := 30) rfl (by kernel_rfl) (by kernel_rfl) (by kernel_rfl) (fun _ _ _ _ h => h) rfl hS.out ?_
    simp only [Act.put, List.getElem_toArray, List.getElem_cons_succ, List.getElem_cons_zero, List.setIfInBounds_toArray, List.set_cons_zero, List.set_cons_succ]
    refine reg_skipL (i := 31) rfl (by kernel_rfl) (by kernel_rfl) (by kernel_rfl) (fun _ _ _ _ h => h) rfl hS.out ?_
    simp only [Act.put, List.getElem_toArray, List.getElem_cons_succ, List.getElem_cons_zero, List.setIfInBounds_toArray, List.set_cons_zero, List.set_cons_succ]
    refine reg_skipL (i := 32) rfl (by kernel_rfl) (by kernel_rfl) (by kernel_rfl) (fun _ _ _ _ h => h) rfl hS.out ?_
    simp only [Act.put, List.getElem_toArray, List.getElem_cons_succ, List.getElem_cons_zero, List.setIfInBounds_toArray, List.set_cons_zero, List.set_cons_succ]
    refine reg_skipL (i := 33) rfl (by kernel_rfl) (by kernel_rfl) (by kernel_rfl) (fun _ _ _ _ h => h) rfl hS.out ?_
    simp only [Act.put, List.getElem_toArray, List.getElem_cons_succ, List.getElem_cons_zero, List.setIfInBounds_toArray, List.set_cons_zero, List.set_cons_succ]
    refine reg_skipL (i := 34) rfl (by kernel_rfl) (by kernel_rfl) (by kernel_rfl) (fun _ _ _ _ h => h) rfl hS.out ?_
    simp only [Act.put, List.getElem_toArray, List.getElem_cons_succ, List.getElem_cons_zero, List.setIfInBounds_toArray, List.set_cons_zero, List.set_cons_succ]
    refine reg_move (i := 35) rfl (by kernel_rfl) (by kernel_rfl) (by kernel_rfl) (fun _ _ _ _ h => h) rfl (.bool false) (fun _ => rfl) hS.out ?_
    simp only [Act.put, List.getElem_toArray, List.getElem_cons_succ, List.getElem_cons_zero, List.setIfInBounds_toArray, List.set_cons_zero, List.set_cons_succ]
    refine reg_move (i := 36) rfl (by kernel_rfl) (by kernel_rfl) (by kernel_rfl) (fun _ _ _ _ h => h) rfl (.bool false) (fun _ => rfl) hS.out ?_
    simp only [Act.put, List.getElem_toArray, List.getElem_cons_succ, List.getElem_cons_zero, List.setIfInBounds_toArray, List.set_cons_zero, List.set_cons_succ]
    refine wpAnyH_done (by kernel_rfl) (NoPanic.normal ?_) _
    go_wp2
    go_ret
    exact ⟨by (unfold turnB; rw [hg, Bool.false_and]; rfl), hS.out⟩
theorem before_any {i j : Nat} {tm : Bool} (hs : w.heap[S]? = some (oSd k ha h.length hc tm oa on oc)) (hh : Rows w 7 ha hc (h.map Cl.cells)) (hi : i < h.length) (hj : j < h.length) : Calls Try.prog 67 #[.pointer (some ⟨S, 0, none⟩), .int .i64 (i : Int), .int .i64 (j : Int)] w fun e w' => e = .returned (.bool (relT tm (hf h i) (hf h j))) ∧ Below w.heap.size w w' := by
  cases tm with
  | true => exact before_end hs hh hi hj
  | false => exact before_turn hs hh hi hj
end
end Go.Proofs.Ytklpifammbnldaa.pg
