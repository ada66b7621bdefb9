/- OctetBurst answers true for every list of bytes b, every place at and every turn: the sum of b parts from the sum of a copy in which up to four neighbouring bytes were turned just if one of them was. No condition beside the given row's own. The frame round the walk was written by the kit's proof-skeleton; the walk is ours. -/
import Derived.Test.YtecimplpfghikaaRows
import Derived.WalkKit
import Derived.ProofKit
import Derived.OpenShut
import Derived.ShutString
import Derived.ChangeOld
import Derived.Below
import Derived.Test.YtecimplpfghikaaOwn
import Derived.Test.YtecimplpfghikaaBurst
import Derived.WalkSpells
import Derived.WalkLawsBesides
import Derived.SizedLaws
namespace Go.Proofs.Ytecimplpfghikaa.octetBurst
open Go.ChangeShapes Go.WideShapes Go.ChangeAt Go.RowKit
open Go.ChangeMaps (open_string shut_string)
open wrapped octet
set_option linter.unusedVariables false

theorem own : ownKnob Try.prog.godebug = none := by kernel_rfl
theorem laidOut : laidOutB Try.prog = true := by kernel_rfl

/-- WHAT THE WALK IS TOLD OF A SLICE OF INTEGERS THAT CAME IN: it is nil; or it leads to a row of 'cap' cells, the numbers 'zs' (the first 'len' are its elements, the rest its spare room), each fitting its kind. -/
def IsRow (k : IntKind) (w : World) (a : Option Addr) (len cap : Nat) (zs : List Int) : Prop :=
  (a = none ∧ len = 0 ∧ cap = 0 ∧ zs = []) ∨
  ∃ x, a = some x ∧ len ≤ cap ∧ cap ≤ maxLen ∧ zs.length = cap ∧ (∀ i, i < zs.length → w.cell? (x.add i) = some (.int k (zs.getD i 0))) ∧ ∀ n ∈ zs, (Lit.int k n).wf = true

theorem row_in {w : World} {a : Option Addr} {len cap : Nat} {zs : List Int} (h : IsRow .u8 w a len cap zs) : Row w a len (bytAt zs) ∧ (a = none → len = 0 ∧ cap = 0) ∧ len ≤ cap := by
  rcases h with ⟨rfl, rfl, rfl, rfl⟩ | ⟨x, hx, hl, hm, hz, hc, hw⟩
  · exact ⟨⟨by omega, fun i => Nat.mod_lt _ (by decide), .inl rfl⟩, fun _ => ⟨rfl, rfl⟩, Nat.le_refl _⟩
  · exact ⟨row_of hl hm hz x hx hc hw, fun h => (by rw [hx] at h; cases h), hl⟩
theorem wf_u32 {n : Int} (h : (Lit.int .u32 n).wf = true) : 0 ≤ n ∧ n < 4294967296 := by
  have h2 : 0 ≤ n ∧ n ≤ 4294967295 := by simpa [Lit.wf, IntKind.min, IntKind.max, IntKind.bits, IntKind.signed] using h
  omega
/-- The byte that is turned into the place j behind s. -/
def tx (t : Nat) (j : Nat) : Nat := t / 2 ^ (8 * j) % 256
/-- The bytes, the first k of those from s on turned. -/
def G (f : Nat → Nat) (t s k : Nat) : Nat → Nat := fun i => if s ≤ i ∧ i < s + k then f i ^^^ tx t (i - s) else f i
def ch (t s n : Nat) : Nat → Bool
  | 0 => false
  | k + 1 => ch t s n k || (decide (s + k < n) && decide (tx t k ≠ 0))
theorem tx_lt (t j : Nat) : tx t j < 256 := Nat.mod_lt _ (by decide)
theorem G_lt (f : Nat → Nat) (hf : ∀ i, f i < 256) (t s k i : Nat) : G f t s k i < 256 := by
  unfold G; split
  · exact Nat.xor_lt_two_pow (n := 8) (hf i) (tx_lt t _)
  · exact hf i
theorem G_here (f : Nat → Nat) (t s k : Nat) : G f t s k (s + k) = f (s + k) := by unfold G; rw [if_neg (by omega)]
theorem G_next (f : Nat → Nat) (t s k n : Nat) (h : n ≤ s + k) : bl (G f t s k) n = bl (G f t s (k + 1)) n := bl_congr _ _ _ fun i hi => by
  unfold G
  by_cases h2 : s ≤ i ∧ i < s + k
  · rw [if_pos h2, if_pos (by omega)]
  · rw [if_neg h2, if_neg (by omega)]
theorem G_turn (f : Nat → Nat) (t s k n : Nat) : (bl (G f t s k) n).set (s + k) (.int .u8 ((f (s + k) ^^^ tx t k : Nat) : Int)) = bl (G f t s (k + 1)) n := by
  apply List.ext_getElem?
  intro i
  rw [List.getElem?_set, bl_length]
  by_cases h1 : s + k = i
  · subst h1
    by_cases h2 : s + k < n
    · rw [if_pos rfl, if_pos h2, bl_get _ _ _ h2]
      unfold G; rw [if_pos (by omega), show s + k - s = k by omega]
    · rw [if_pos rfl, if_neg h2, bl_none _ _ _ (by omega)]
  · rw [if_neg h1]
    by_cases h2 : i < n
    · rw [bl_get _ _ _ h2, bl_get _ _ _ h2]
      unfold G
      by_cases h3 : s ≤ i ∧ i < s + k
      · rw [if_pos h3, if_pos (by omega)]
      · rw [if_neg h3, if_neg (by omega)]
    · rw [bl_none _ _ _ (by omega), bl_none _ _ _ (by omega)]
theorem ch_false (t s n k : Nat) : ch t s n k = false ↔ ∀ j, j < k → s + j < n → tx t j = 0 := by
  induction k with
  | zero => exact ⟨fun _ j hj => by omega, fun _ => rfl⟩
  | succ k ih =>
    show (ch t s n k || (decide (s + k < n) && decide (tx t k ≠ 0))) = false ↔ _
    rw [Bool.or_eq_false_iff, ih]
    constructor
    · rintro ⟨h1, h2⟩ j hj hn
      by_cases h3 : j < k
      · exact h1 j h3 hn
      · have h4 : j = k := by omega
        subst h4
        simpa [hn] using h2
    · intro h
      refine ⟨fun j hj => h j (by omega), ?_⟩
      by_cases h3 : s + k < n
      · simp [h3, h k (by omega) h3]
      · simp [h3]
theorem xor_same (a b : Nat) : a = a ^^^ b ↔ b = 0 := by
  constructor
  · intro h
    have h2 : a ^^^ a = a ^^^ (a ^^^ b) := by rw [← h]
    rwa [Nat.xor_self, ← Nat.xor_assoc, Nat.xor_self, Nat.zero_xor, eq_comm] at h2
  · rintro rfl; rw [Nat.xor_zero]
/-- The two sums are the same just if nothing was turned. -/
theorem sums (f : Nat → Nat) (hf : ∀ i, f i < 256) (t s n : Nat) : (4294967295 - crc f n = 4294967295 - crc (G f t s 4) n) ↔ ch t s n 4 = false := by
  rw [burst f (G f t s 4) hf (G_lt f hf t s 4) s n (fun i hi => by unfold G; rw [if_neg (by omega)]), ch_false]
  constructor
  · intro h j hj hn
    have := h (s + j) hn
    unfold G at this
    rw [if_pos (by omega), xor_same, show s + j - s = j by omega] at this
    exact this
  · intro h i hi
    unfold G
    by_cases h2 : s ≤ i ∧ i < s + 4
    · rw [if_pos h2, xor_same]
      exact h (i - s) (by omega) (by omega)
    · rw [if_neg h2]
theorem ch_turn (t s n k X : Nat) (h : s + k < n) (hX : tx t k = X) (b : Bool) (hb : ch t s n k = b) : ch t s n (k + 1) = (b || (((X : Nat) : Int) != 0)) := by
  show (ch t s n k || (decide (s + k < n) && decide (tx t k ≠ 0))) = _
  rw [hb, hX]
  simp only [h, decide_true, Bool.true_and]
  congr 1
  by_cases h0 : X = 0
  · subst h0; rfl
  · simp [h0]
theorem ch_stay (t s n k : Nat) (h : n ≤ s + k) : ch t s n (k + 1) = ch t s n k := by
  show (ch t s n k || (decide (s + k < n) && decide (tx t k ≠ 0))) = _
  simp [show ¬ s + k < n by omega]

/-! ### STEP 1: THE WALK: the Go text returns true, AND WRITES NOTHING THAT WAS THERE: 'Below w.heap.size w w'' (Derived/Below.lean: '.refl', '.alloc', '.drew', '.setCell' at a new block, '.trans'). Open each 'IsRow' by 'rcases' AHEAD of 'go_enter'; part every test ahead of the walk. -/
set_option maxRecDepth 100000 in
set_option maxHeartbeats 1000000 in
theorem walk (a0 : Option Addr) (len0 cap0 : Nat) (z0 : List Int) (a1 : Int) (a2 : Int) (w : World) (w0 : IsRow .u8 w a0 len0 cap0 z0) (rch0 : cap0 ≤ 140737488351232) (w1 : (Lit.int .i64 a1).wf = true) (w2 : (Lit.int .u32 a2).wf = true) :
    Calls Try.prog 8 #[.slice a0 len0 cap0, .int .i64 a1, .int .u32 a2] w fun e w' => e = .returned (.bool true) ∧ Below w.heap.size w w' := by
  obtain ⟨la, ha⟩ := wf_bounds w1
  obtain ⟨lt, ht⟩ := wf_u32 w2
  obtain ⟨hr, hnn, hlc⟩ := row_in w0
  have cO := own_any a0 len0 cap0 (bytAt z0) w hr hnn (by omega)
  obtain ⟨t, hT⟩ : ∃ t : Nat, Hid (a2 = (t : Int)) := ⟨a2.toNat, by show a2 = _; omega⟩
  obtain ⟨s, hs⟩ : ∃ s : Nat, s ≤ len0 ∧ (a1 = (s : Int) ∨ (a1 < 0 ∧ s = len0) ∨ ((len0 : Int) < a1 ∧ s = len0)) := by
    by_cases h : 0 ≤ a1 ∧ a1 ≤ len0
    · exact ⟨a1.toNat, by omega, .inl (by omega)⟩
    · exact ⟨len0, Nat.le_refl _, by omega⟩
  obtain ⟨hsl, hs⟩ := hs
  have hlI : (len0 : Int) ≤ 140737488351232 := by omega
  clear w0 w1 w2 rch0 hlc hnn
  go_enter Try.func8, Try.ntmps8
  go_wp2_with (go_at_call 9; with_reducible refine cO.mono ?_; rintro e w1 ⟨rfl, ho1, hb1⟩)
  go_loopw [8, 9] (fun c i wr => ∃ k : Nat, k ≤ 4 ∧ i = .int .i64 k ∧ c = .bool (ch t s len0 k) ∧ Owns wr w.heap.size w.heap.size len0 (len0 + 16) (G (bytAt z0) t s k) ∧ Below w.heap.size w wr) (fun _ i _ => 4 - (intOf i).toNat)
  case atStart =>
    refine ⟨0, by omega, rfl, rfl, ?_, hb1⟩
    have e : bl (bytAt z0) len0 = bl (G (bytAt z0) t s 0) len0 := bl_congr _ _ _ fun i hi => by unfold G; rw [if_neg (by omega)]
    show w1.ownsRow _ _ _ _ _ _
    rw [← e]; exact ho1
  case round =>
    obtain ⟨k, hk, rfl, rfl, ho, hbl⟩ := hrel
    have stay : len0 ≤ s + k → Owns wr w.heap.size w.heap.size len0 (len0 + 16) (G (bytAt z0) t s (k + 1)) := fun h => by
      show wr.ownsRow _ _ _ _ _ _
      rw [← G_next _ _ _ _ _ h]; exact ho
    by_cases hk4 : k < 4
    · rcases hs with hs | hs | hs
      · subst hs
        by_cases hkl : s + k < len0
        · have hc := World.ownsRow.cellAt ho (s + k) (by omega)
          rw [bl_get _ _ _ hkl, G_here] at hc
          have hfz := World.ownsRow.frozenAt ho (s + k)
          obtain ⟨X, hX⟩ : ∃ X, Hid (tx t k = X) := ⟨_, rfl⟩
          have hXl := tx_lt t k
          obtain ⟨Z, hZ⟩ : ∃ Z, Hid (bytAt z0 (s + k) ^^^ tx t k = Z) := ⟨_, rfl⟩
          have eb := u8_xor_nat (bytAt z0 (s + k)) (tx t k) (hr.2.1 _) hXl
          have hst := (World.ownsRow.stored ho (s + k) (.int .u8 ((bytAt z0 (s + k) ^^^ tx t k : Nat) : Int))).1
          rw [G_turn] at hst
          have hsb : Below w.heap.size w (wr.setCell ⟨w.heap.size, s + k, none⟩ (.int .u8 ((bytAt z0 (s + k) ^^^ tx t k : Nat) : Int))) := hbl.setCell (Nat.le_refl _) _
          rw [hZ.out] at eb hst hsb
          rw [hX.out] at eb
          rw [hX.out] at hXl
          generalize bytAt z0 (s + k) = Y at *
          clear cO ho1 hb1 stay ho hbl hr hZ
          rcases (by omega : k = 0 ∨ k = 1 ∨ k = 2 ∨ k = 3) with rfl | rfl | rfl | rfl
          · have ex : a2 % 256 = (X : Int) := by rw [← hX.out]; have := hT.out; unfold tx; omega
            rw [Nat.add_zero] at hc hfz hst hsb
            clear hT
            cases hcb : ch t s len0 0 with
            | false =>
              go_wp2
              go_roundw
              case rel => exact ⟨1, by omega, rfl, by rw [ch_turn t s len0 0 X hkl hX.out false hcb]; rfl, hst, hsb⟩
              case measure => simp [intOf]
            | true => exact absurd (show false = true from hcb) (by decide)
          · have ex : a2 / 256 % 256 = (X : Int) := by rw [← hX.out]; have := hT.out; unfold tx; omega
            clear hT
            cases hcb : ch t s len0 1 with
            | false =>
              go_wp2
              go_roundw
              case rel => exact ⟨2, by omega, rfl, by rw [ch_turn t s len0 1 X hkl hX.out false hcb]; rfl, hst, hsb⟩
              case measure => simp [intOf]
            | true =>
              go_wp2
              go_roundw
              case rel => exact ⟨2, by omega, rfl, by rw [ch_turn t s len0 1 X hkl hX.out true hcb]; rfl, hst, hsb⟩
              case measure => simp [intOf]
          · have ex : a2 / 65536 % 256 = (X : Int) := by rw [← hX.out]; have := hT.out; unfold tx; omega
            clear hT
            cases hcb : ch t s len0 2 with
            | false =>
              go_wp2
              go_roundw
              case rel => exact ⟨3, by omega, rfl, by rw [ch_turn t s len0 2 X hkl hX.out false hcb]; rfl, hst, hsb⟩
              case measure => simp [intOf]
            | true =>
              go_wp2
              go_roundw
              case rel => exact ⟨3, by omega, rfl, by rw [ch_turn t s len0 2 X hkl hX.out true hcb]; rfl, hst, hsb⟩
              case measure => simp [intOf]
          · have ex : a2 / 16777216 = (X : Int) := by rw [← hX.out]; have := hT.out; unfold tx; omega
            clear hT
            cases hcb : ch t s len0 3 with
            | false =>
              go_wp2
              go_roundw
              case rel => exact ⟨4, by omega, rfl, by rw [ch_turn t s len0 3 X hkl hX.out false hcb]; rfl, hst, hsb⟩
              case measure => simp [intOf]
            | true =>
              go_wp2
              go_roundw
              case rel => exact ⟨4, by omega, rfl, by rw [ch_turn t s len0 3 X hkl hX.out true hcb]; rfl, hst, hsb⟩
              case measure => simp [intOf]
        · have hst := stay (by omega)
          have ec := ch_stay t s len0 k (by omega)
          clear cO ho1 hb1 hT ho stay hr
          go_wp2
          go_roundw
          case rel => exact ⟨k + 1, by omega, by go_num, by rw [ec], hst, hbl⟩
          case measure => simp [intOf]; omega
      · obtain ⟨hs, hs2⟩ := hs
        have hst := stay (by omega)
        have ec := ch_stay t s len0 k (by omega)
        clear cO ho1 hb1 hT ho stay hr hs2
        go_wp2
        go_roundw
        case rel => exact ⟨k + 1, by omega, by go_num, by rw [ec], hst, hbl⟩
        case measure => simp [intOf]; omega
      · obtain ⟨hs, hs2⟩ := hs
        have hst := stay (by omega)
        have ec := ch_stay t s len0 k (by omega)
        clear cO ho1 hb1 hT ho stay hr hs2
        go_wp2
        go_roundw
        case rel => exact ⟨k + 1, by omega, by go_num, by rw [ec], hst, hbl⟩
        case measure => simp [intOf]; omega
    · have hk4' : k = 4 := by omega
      subst hk4'
      have hS := sums (bytAt z0) hr.2.1 t s len0
      have c1 := sum_any a0 len0 cap0 (bytAt z0) wr (hr.later hbl)
      have c2 := sum_any (some ⟨w.heap.size, 0, none⟩) len0 (len0 + 16) (G (bytAt z0) t s 4) wr (Owns.row ho hr.1 (G_lt _ hr.2.1 _ _ _))
      have c3 := sum_any none 0 0 (fun _ => 0) wr ⟨by decide, fun _ => (by decide : 0 < 256), .inl rfl⟩
      have c3' : Calls Try.prog 36 #[.slice none 0 0] wr fun e w' => e = .returned (.int .u32 0) ∧ w' = wr := c3
      generalize 4294967295 - crc (bytAt z0) len0 = A at hS c1
      generalize 4294967295 - crc (G (bytAt z0) t s 4) len0 = B at hS c2
      clear cO ho1 hb1 hT stay hr c3 ho hlI
      cases hch : ch t s len0 4 with
      | false =>
        have hAB := hS.2 hch
        subst hAB
        clear hS hch hs
        go_wp2_with (go_at_call 36; first | (with_reducible refine c1.mono ?_; rintro e w2 ⟨rfl, rfl⟩) | (with_reducible refine c2.mono ?_; rintro e w2 ⟨rfl, rfl⟩) | (with_reducible refine c3'.mono ?_; rintro e w2 ⟨rfl, rfl⟩))
        go_ret
        exact ⟨rfl, hbl⟩
      | true =>
        have hAB : ((A : Nat) : Int) ≠ ((B : Nat) : Int) := fun h => by
          have := hS.1 (by omega)
          rw [hch] at this; cases this
        clear hS hch hs
        go_wp2_with (go_at_call 36; first | (with_reducible refine c1.mono ?_; rintro e w2 ⟨rfl, rfl⟩) | (with_reducible refine c2.mono ?_; rintro e w2 ⟨rfl, rfl⟩) | (with_reducible refine c3'.mono ?_; rintro e w2 ⟨rfl, rfl⟩))
        go_ret
        refine ⟨?_, hbl⟩
        have hb : (((A : Nat) : Int) != ((B : Nat) : Int)) = true := bne_iff_ne.2 hAB
        first | (rw [hb]; done) | (simp only [hb]; done) | (simp [hb]; done) | (simp [hAB]; done)

/-! ### THE ROW's STEP: WRITTEN OUT: LEAVE IT -/
set_option maxRecDepth 100000 in
theorem lifted (os : Os) (started : os.Started) (H : Type) (enc : TypeId × Value → H) :
    ReturnsInHanded {} Try.checked os 8 .any (Rows.octetBurstSpec.pre6 enc Try.prog Try.f8 Rows.octetBurstRow.domain false) (Rows.octetBurstSpec.post enc Try.prog Try.f8 false true false false) := by
  refine returnsInHanded_of_change_sized (C := Try.checked) own started (by kernel_rfl) Try.func8
    (ChangeSpec.witness6 (enc := enc) (C := Try.checked) false ⟨#[], #[.slice none 0 0, .int .i64 0, .int .u32 0], []⟩ 8 (by kernel_rfl) (by kernel_rfl) (by kernel_rfl) (by kernel_rfl)) ?_
  intro W base args ds gs before hval0 hW hcnd hsz0 _
  have hval : ∀ (j : Nat) t v, Try.f8.params[j]? = some t → args[j]? = some v → Value.okWide Try.prog W .any base t v := hval0
  have hW' := hW
  obtain ⟨p, q, hA0, hV, rfl, hfz, hnd⟩ := hW
  have hA : DataW.TrodAll enc Try.prog W 0 (fun _ => true) true Try.f8.params.toList args.toList ds p := hA0
  rw [Try.params8] at hA hval
  have hsz : (DataW.weightsEach Try.prog (Try.f8.params.toList ++ Rows.octetBurstSpec.plain.varTypes Try.prog) (ds ++ gs)).all (· ≤ reachBytes) = true := hsz0
  rw [Try.params8] at hsz
  obtain ⟨v0, vs0, d0, ds0, p0, q0, hargs, rfl, rfl, h0, r0⟩ := trodAll_cons hA
  obtain ⟨v1, vs1, d1, ds1, p1, q1, rfl, rfl, rfl, h1, r1⟩ := trodAll_cons r0
  obtain ⟨v2, vs2, d2, ds2, p2, q2, rfl, rfl, rfl, h2, r2⟩ := trodAll_cons r1
  obtain ⟨rfl, rfl, rfl⟩ := trodAll_nil r2
  obtain rfl : args = #[v0, v1, v2] := by cases args; simp_all
  obtain ⟨rfl, rfl⟩ := trodVars_none hV
  obtain ⟨a0, len0, cap0, rfl⟩ := okWide_slice Try.underlying22 (hval 0 22 v0 rfl rfl)
  have k0 := h0
  have lt0 : ∀ x ∈ p0, x.block < W.heap.size := by obtain ⟨m, hm⟩ := k0; exact DataW.trod_lt m _ _ _ hm
  obtain ⟨z0, w0, rch0⟩ : ∃ zs, IsRow .u8 W a0 len0 cap0 zs ∧ cap0 ≤ 140737488351232 := by
    obtain ⟨fuel, hf⟩ := h0
    rcases open_ints Try.underlying22 Try.underlying5 (by kernel_rfl) hf with ⟨hcs, _⟩ | ⟨x, l, c, zs, hcs, _, hl, hm, hz, hx, hcell, hwz⟩
    · simp [Value.cells] at hcs
      obtain ⟨rfl, rfl, rfl⟩ := hcs
      exact ⟨[], .inl ⟨rfl, rfl, rfl, rfl⟩, by omega⟩
    · simp [Value.cells] at hcs
      obtain ⟨rfl, rfl, rfl⟩ := hcs
      have hd : d0 = .slice (lits .u8 (zs.take len0)) (lits .u8 (zs.drop len0)) := congrArg Prod.fst hx
      refine ⟨zs, .inr ⟨_, rfl, hl, hm, by simpa using hz, hcell, hwz⟩, ?_⟩
      have h3 := sized_slice hsz (j := 0) (t := 22) (e := 5) rfl (congrArg some hd) Try.underlying22
      have hb : Try.prog.bytesOf 5 = 1 := by kernel_rfl
      rw [hb] at h3
      simp only [lits, List.length_map, List.length_take, List.length_drop, reachBytes] at h3
      simp only [if_true] at hz
      omega
  obtain ⟨a1, rfl, rfl, rfl, w1⟩ := open_int Try.underlying3 (hval 1 3 v1 rfl rfl) h1
  obtain ⟨a2, rfl, rfl, rfl, w2⟩ := open_int Try.underlying40 (hval 2 40 v2 rfl rfl) h2
  clear hA0 hval0
  refine (walk a0 len0 cap0 z0 a1 a2 W w0 rch0 w1 w2).mono fun e W' ⟨he, bel⟩ => ?_
  subst he
  exact ⟨_, rfl, _, _, _, [], _, [], hW', trodAll_mk1 (shut_bool Try.underlying4 _), (trodAll_cons_mk (Below.trod laidOut (by kernel_rfl) (of_decide_eq_true (by kernel_rfl)) k0 bel lt0) (trodAll_cons_mk (shut_int Try.underlying3 w1) (trodAll_cons_mk (shut_int Try.underlying40 w2) trodAll_mk0))), rfl, bel.frame _, fun h => by cases h⟩

theorem over : Rows.octetBurstRow.holds Try.pinned (OpenSpec.ofChange Rows.octetBurstSpec) :=
  OpenClaim.holds_of_wide 8 Try.f8 rfl rfl rfl rfl rfl rfl rfl ⟨rfl, rfl, rfl, rfl, rfl⟩ rfl rfl rfl rfl rfl (by kernel_rfl) Try.func8 (by kernel_rfl)
    (of_decide_eq_true (by kernel_rfl)) (by unfold Func.isWrapper; first | (rw [if_pos (by decide +kernel)]; kernel_rfl) | (rw [if_neg (by decide +kernel)]; exact ⟨rfl, rfl⟩))
    (fun os started H enc _ => lifted os started H enc)

/-- ████ THE STATEMENT ████ -/
theorem proved : Rows.OctetBurstSaid := over
end Go.Proofs.Ytecimplpfghikaa.octetBurst
namespace Go.Proofs.Ytecimplpfghikaa
theorem octetBurst_holds : Rows.OctetBurstSaid := octetBurst.proved
#print axioms octetBurst_holds
end Go.Proofs.Ytecimplpfghikaa
