/- The sum of bytes (CRC-32) on plain numbers, and the contracts of package octet's Sum and of the document's own. -/
import Derived.Test.YtikkgfmhnmoalaaRows
import Derived.Test.YtikkgfmhnmoalaaM4
import Derived.WalkKit
import Derived.ProofKit
import Derived.OpenShut
import Derived.WalkSpells
import Derived.WalkLawsBesides
import Derived.Laws.CopyOwn
namespace Go.Proofs.Ytikkgfmhnmoalaa.octet
open Go.ChangeShapes Go.WideShapes Go.ChangeAt Go.RowKit
open wrapped
set_option linter.unusedVariables false
/-- One turn of the sum. -/
def st (c : Nat) : Nat := (c / 2) ^^^ (if c % 2 = 1 then 3988292384 else 0)
def iter : Nat → Nat → Nat
  | 0, c => c
  | n + 1, c => st (iter n c)
/-- What the sum's number is behind n bytes. -/
def crc (f : Nat → Nat) : Nat → Nat
  | 0 => 4294967295
  | n + 1 => iter 8 (crc f n ^^^ f n)
theorem xor_lt32 {a b : Nat} (ha : a < 4294967296) (hb : b < 4294967296) : a ^^^ b < 4294967296 := Nat.xor_lt_two_pow (n := 32) ha hb
theorem st_lt (c : Nat) (h : c < 4294967296) : st c < 4294967296 := by
  unfold st; refine xor_lt32 (by omega) ?_; split <;> omega
theorem iter_lt (n c : Nat) (h : c < 4294967296) : iter n c < 4294967296 := by
  induction n with
  | zero => exact h
  | succ n ih => exact st_lt _ ih
theorem crc_lt (f : Nat → Nat) (hf : ∀ i, f i < 256) (n : Nat) : crc f n < 4294967296 := by
  induction n with
  | zero => show (4294967295 : Nat) < 4294967296; decide
  | succ n ih => exact iter_lt _ _ (xor_lt32 ih (by have := hf n; omega))
theorem st_odd (c : Nat) (h : c % 2 = 1) : st c = (c / 2) ^^^ 3988292384 := by unfold st; rw [if_pos h]
theorem st_even (c : Nat) (h : c % 2 = 0) : st c = c / 2 := by unfold st; rw [if_neg (by omega)]; simp
/-- What the walk is told of a list of bytes that is read: its numbers lie in the cells from an address on. -/
def Row (w : World) (a : Option Addr) (len : Nat) (f : Nat → Nat) : Prop :=
  len ≤ 9223372036854775807 ∧ (∀ i, f i < 256) ∧ (len = 0 ∨ ∃ b off, a = some ⟨b, off, none⟩ ∧ ∀ i, i < len → w.cell? ⟨b, off + i, none⟩ = some (.int .u8 ((f i : Nat) : Int)))
theorem Row.later {w w' : World} {a : Option Addr} {len : Nat} {f : Nat → Nat} (h : Row w a len f) (hb : Below w.heap.size w w') : Row w' a len f :=
  ⟨h.1, h.2.1, h.2.2.imp_right fun ⟨b, off, ha, hc⟩ => ⟨b, off, ha, fun i hi => cell_later hb (hc i hi)⟩⟩
theorem wf_byte {n : Int} (h : (Lit.int .u8 n).wf = true) : 0 ≤ n ∧ n < 256 := by
  have h2 : 0 ≤ n ∧ n ≤ 255 := by simpa [Lit.wf, IntKind.min, IntKind.max, IntKind.bits, IntKind.signed] using h
  omega
/-- The numbers of a list of bytes that came in. -/
def bytAt (zs : List Int) (i : Nat) : Nat := (zs.getD i 0).toNat % 256
theorem bytAt_eq (zs : List Int) (h : ∀ n ∈ zs, (Lit.int .u8 n).wf = true) (i : Nat) : ((bytAt zs i : Nat) : Int) = zs.getD i 0 := by
  unfold bytAt
  by_cases hi : i < zs.length
  · have := wf_byte (h (zs.getD i 0) (by rw [List.getD_eq_getElem?_getD, List.getElem?_eq_getElem hi]; exact List.getElem_mem hi))
    omega
  · rw [List.getD_eq_getElem?_getD, List.getElem?_eq_none (by omega)]; rfl
theorem row_of {w : World} {a : Option Addr} {len cap : Nat} {zs : List Int} (hl : len ≤ cap) (hm : cap ≤ maxLen) (hz : zs.length = cap) (x : Addr) (ha : a = some x)
    (hc : ∀ i, i < zs.length → w.cell? (x.add i) = some (.int .u8 (zs.getD i 0))) (hw : ∀ n ∈ zs, (Lit.int .u8 n).wf = true) : Row w a len (bytAt zs) := by
  unfold maxLen at hm
  refine ⟨by omega, fun i => Nat.mod_lt _ (by decide), ?_⟩
  by_cases h0 : len = 0
  · exact .inl h0
  · right
    obtain ⟨b, off, spot⟩ := x
    have hs : spot = none := by simpa [Addr.add] using World.cell?_spot (hc 0 (by omega))
    subst hs
    exact ⟨b, off, ha, fun i hi => by
      rw [bytAt_eq zs hw i]
      by_cases h : i = 0
      · subst h; simpa [Addr.add] using hc 0 (by omega)
      · simpa [Addr.add, h] using hc i (by omega)⟩
theorem bits_and_u32_one (C : Nat) (h : C < 4294967296) : bits .and .u32 (C : Int) 1 = ((C % 2 : Nat) : Int) := by
  have e := u32_and_nat C 1 h (by omega)
  rw [Nat.and_one_is_mod] at e
  exact e
theorem not32 (C : Nat) (h : C < 4294967296) : bits .xor .u32 4294967295 (C : Int) = ((4294967295 - C : Nat) : Int) := by
  have e := u32_xor_nat 4294967295 C (by omega) h
  have e2 : 4294967295 ^^^ C = 4294967295 - C := by
    have h1 : (BitVec.allOnes 32 ^^^ BitVec.ofNat 32 C).toNat = 4294967295 - C := by
      rw [BitVec.allOnes_xor, BitVec.toNat_not, BitVec.toNat_ofNat, Nat.mod_eq_of_lt h]
    have h2 : (BitVec.allOnes 32 ^^^ BitVec.ofNat 32 C).toNat = 4294967295 ^^^ C := by
      rw [BitVec.toNat_xor, BitVec.toNat_ofNat, Nat.mod_eq_of_lt h]; rfl
    omega
  rw [e2] at e
  exact e
set_option maxHeartbeats 1000000 in
theorem sum_any (a : Option Addr) (len cap : Nat) (f : Nat → Nat) (w : World) (hr : Row w a len f) :
    Calls Try.prog 20 #[.slice a len cap] w fun e w' => e = .returned (.int .u32 ((4294967295 - crc f len : Nat) : Int)) ∧ w' = w := by
  obtain ⟨hlen, hf, hcells⟩ := hr
  go_enter Try.func20, Try.ntmps20
  go_wp2
  go_loop [3, 9] (fun c i => ∃ (k C : Nat), k ≤ len ∧ i = .int .i64 k ∧ c = .int .u32 C ∧ C < 4294967296 ∧ Hid (C = crc f k)) (fun _ i => len - (intOf i).toNat)
  case atStart => exact ⟨0, 4294967295, Nat.zero_le _, rfl, rfl, by decide, rfl⟩
  case round =>
    obtain ⟨k, C, hk, rfl, rfl, hC, hCk⟩ := hrel
    by_cases hlt : k < len
    · rcases hcells with h0 | ⟨b, off, rfl, hcell⟩
      · omega
      · have hc := hcell k hlt
        have hfk := hf k
        have e0 : bits .xor .u32 (C : Int) ((f k : Nat) : Int) = ((C ^^^ f k : Nat) : Int) := u32_xor_nat C (f k) hC (by omega)
        obtain ⟨D0, hD0⟩ : ∃ D0, Hid (C ^^^ f k = D0) := ⟨_, rfl⟩
        have hD0l : D0 < 4294967296 := by rw [← hD0.out]; exact xor_lt32 hC (by omega)
        rw [hD0.out] at e0
        have hD0k : Hid (D0 = crc f k ^^^ f k) := by show D0 = _; rw [← hD0.out, hCk.out]
        clear hcell hD0
        go_wp2
        go_loop [3, 17] (fun c j => ∃ (m D : Nat), m ≤ 8 ∧ j = .int .i64 m ∧ c = .int .u32 D ∧ D < 4294967296 ∧ Hid (D = iter m (crc f k ^^^ f k))) (fun _ j => 8 - (intOf j).toNat)
        case atStart => exact ⟨0, D0, Nat.zero_le _, rfl, rfl, hD0l, hD0k⟩
        case round =>
          obtain ⟨m, D, hm, rfl, rfl, hD, hDm⟩ := hrel
          by_cases hm8 : m < 8
          · have e1 := bits_and_u32_one D hD
            have hDm2 : Hid (st D = iter (m + 1) (crc f k ^^^ f k)) := by show st D = st _; rw [hDm.out]
            have hst := st_lt D hD
            rcases (by omega : D % 2 = 0 ∨ D % 2 = 1) with hp | hp
            · rw [hp] at e1
              have e1' : bits .and .u32 (D : Int) 1 = 0 := e1
              have e2 : bits .xor .u32 ((D : Int) / 2) 0 = ((st D : Nat) : Int) := by
                have := u32_xor_nat (D / 2) 0 (by omega) (by omega)
                rw [Nat.xor_zero] at this
                rw [st_even D hp]; exact this
              clear e1 hp
              go_wp2
              go_round
              case rel => exact ⟨m + 1, st D, by omega, by go_num, rfl, hst, hDm2⟩
              case measure => simp [intOf]; omega
            · rw [hp] at e1
              have e1' : bits .and .u32 (D : Int) 1 = 1 := e1
              have e2 : bits .xor .u32 ((D : Int) / 2) 3988292384 = ((st D : Nat) : Int) := by
                have := u32_xor_nat (D / 2) 3988292384 (by omega) (by omega)
                rw [← st_odd D hp] at this
                exact this
              clear e1 hp
              go_wp2
              go_round
              case rel => exact ⟨m + 1, st D, by omega, by go_num, rfl, hst, hDm2⟩
              case measure => simp [intOf]; omega
          · go_wp2
            go_round
            case rel => exact ⟨k + 1, D, by omega, by go_num, rfl, hD, by show D = iter 8 _; rw [hDm.out, show m = 8 by omega]⟩
            case measure => simp [intOf]; omega
    · have e3 := not32 C hC
      go_wp2
      go_ret
      have : k = len := by omega
      subst this
      refine ⟨ret_int ?_, rfl⟩
      rw [hCk.out] at e3
      first | rw [hCk.out]; exact e3 | (rw [← hCk.out])
end Go.Proofs.Ytikkgfmhnmoalaa.octet
/- Bytes in memory that the call itself makes: what is owned, as numbers; the contract of the statements' own 'own' (bytes in memory of their own, with room behind). -/
namespace Go.Proofs.Ytikkgfmhnmoalaa.octet
open Go.ChangeShapes Go.WideShapes Go.ChangeAt Go.RowKit
open wrapped
set_option linter.unusedVariables false
theorem info5 : (Try.prog.info? 5).map (fun i => (i.zero, i.size, i.bytes)) = some (some (.int .u8 0), 1, 1) := by kernel_rfl
/-- The first n numbers, as cells of bytes. -/
def bl (f : Nat → Nat) (n : Nat) : List Value := (List.range n).map fun i => Value.int .u8 ((f i : Nat) : Int)
theorem bl_length (f : Nat → Nat) (n : Nat) : (bl f n).length = n := by simp [bl]
theorem bl_get (f : Nat → Nat) (n i : Nat) (h : i < n) : (bl f n)[i]? = some (.int .u8 ((f i : Nat) : Int)) := by simp [bl, h]
theorem bl_none (f : Nat → Nat) (n i : Nat) (h : n ≤ i) : (bl f n)[i]? = none := by simp [bl, h]
theorem bl_one (f : Nat → Nat) (n : Nat) : ∀ u ∈ bl f n, u.oneCell' = true := by
  intro u hu
  simp only [bl, List.mem_map] at hu
  obtain ⟨i, _, rfl⟩ := hu
  rfl
theorem bl_congr (f g : Nat → Nat) (n : Nat) (h : ∀ i, i < n → f i = g i) : bl f n = bl g n := by
  unfold bl
  refine List.map_congr_left fun i hi => ?_
  rw [h i (by simpa using hi)]
/-- Two lists of bytes one behind the other. -/
def cat (f : Nat → Nat) (n : Nat) (g : Nat → Nat) : Nat → Nat := fun i => if i < n then f i else g (i - n)
theorem bl_cat (f g : Nat → Nat) (n m : Nat) : bl f n ++ bl g m = bl (cat f n g) (n + m) := by
  apply List.ext_getElem?
  intro i
  by_cases h : i < n
  · rw [List.getElem?_append_left (by rw [bl_length]; exact h), bl_get _ _ _ h, bl_get _ _ _ (by omega)]; simp [cat, h]
  · rw [List.getElem?_append_right (by rw [bl_length]; omega), bl_length]
    by_cases h2 : i < n + m
    · rw [bl_get _ _ _ (by omega), bl_get _ _ _ h2]; simp [cat, h]
    · rw [bl_none _ _ _ (by omega), bl_none _ _ _ (by omega)]
theorem cat_lt (f g : Nat → Nat) (n : Nat) (hf : ∀ i, f i < 256) (hg : ∀ i, g i < 256) (i : Nat) : cat f n g i < 256 := by
  unfold cat; split
  · exact hf i
  · exact hg _
/-- The slice of n bytes with room for c that the call made as block g. -/
abbrev mine (g n c : Nat) : Value := .slice (some ⟨g, 0, none⟩) n c
abbrev Owns (w : World) (base g n c : Nat) (f : Nat → Nat) : Prop := w.ownsRow base 5 1 (mine g n c) n (bl f n)
theorem Owns.row {w : World} {base g n c : Nat} {f : Nat → Nat} (h : Owns w base g n c f) (hn : n ≤ 9223372036854775807) (hf : ∀ i, f i < 256) : Row w (some ⟨g, 0, none⟩) n f :=
  ⟨hn, hf, .inr ⟨g, 0, rfl, fun i hi => by rw [Nat.zero_add, World.ownsRow.cellAt h i (by omega), bl_get _ _ _ hi]⟩⟩
theorem Owns.block {w : World} {base g n c : Nat} {f : Nat → Nat} (h : Owns w base g n c f) : g < w.heap.size := by
  rcases h.2 with ⟨h', _⟩ | ⟨g', cap', cur, h', _, hg, _⟩
  · simp at h'
  · simp only [Value.slice.injEq, Option.some.injEq, Addr.mk.injEq, and_true, true_and] at h'
    obtain ⟨rfl, rfl⟩ := h'
    exact (Array.getElem?_eq_some_iff.mp hg).1
/-- What the call owns stays, behind what leaves the blocks up to it as they were. -/
theorem Owns.later {w w' : World} {base g n c : Nat} {f : Nat → Nat} (h : Owns w base g n c f) (hb : Below w.heap.size w w') : Owns w' base g n c f := by
  have hl := Owns.block h
  refine ⟨h.1, ?_⟩
  rcases h.2 with h' | ⟨g', cap', cur, h', hbs, hg, hr⟩
  · exact .inl h'
  · have hg' := h'
    simp only [Value.slice.injEq, Option.some.injEq, Addr.mk.injEq, and_true, true_and] at h'
    obtain ⟨rfl, rfl⟩ := h'
    exact .inr ⟨g, c, cur, rfl, hbs, (hb.block g hl).trans hg, hr⟩
/-- The bytes of a list that is read, as the cells that an append or a copy takes. -/
theorem Row.cells {w : World} {a : Option Addr} {n : Nat} {f : Nat → Nat} (h : Row w a n f) (ad : Addr) (ha : a = some ad) (j : Nat) (u : Value) (hj : (bl f n)[j]? = some u) : w.cell? (ad.add j) = some u := by
  have hjn : j < n := by
    have := (List.getElem?_eq_some_iff.mp hj).1
    rwa [bl_length] at this
  rcases h.2.2 with h0 | ⟨b, off, hb, hc⟩
  · omega
  · rw [ha] at hb
    obtain rfl := Option.some.inj hb
    rw [bl_get f n j hjn] at hj
    rw [← hj, ← hc j hjn]
    by_cases h0 : j = 0
    · subst h0; rfl
    · simp [Addr.add, h0]
theorem grown_below {w w' : World} (h : w.grownBy w' none) : Below w.heap.size w w' := (Below.refl _ w).grown h (Nat.le_refl _) (fun k e => by cases e)
end Go.Proofs.Ytikkgfmhnmoalaa.octet
