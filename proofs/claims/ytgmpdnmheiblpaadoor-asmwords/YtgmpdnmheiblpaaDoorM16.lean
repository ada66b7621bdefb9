/- Numbers to the base 16 by the library: some answer, and no panic; package word's Parse of any text. -/
import Derived.Test.YtgmpdnmheiblpaaDoorM15
import Derived.Lib.ParseIntB
import Derived.Lib.ItoaNum
namespace Go.Proofs.YtgmpdnmheiblpaaDoor.pg
open Go.ChangeShapes Go.WideShapes Go.ChangeAt Go.RowKit
set_option linter.unusedVariables false
set_option linter.unusedSimpArgs false
set_option maxRecDepth 100000
attribute [local go_sem ↓] Go.wp_at_zero Go.wp_at_succ
/-- What came of it. -/
def PuR (w : World) (e : Ending) (w' : World) : Prop := ∃ u x, e = .returned (.tuple #[.int .u64 u, x]) ∧ (0 ≤ u ∧ u < 18446744073709551616) ∧ (x = .nilIface ∨ x = .iface 86 (.int .i64 2) ∨ x = .iface 86 (.int .i64 1)) ∧ Below w.heap.size w w'
set_option maxHeartbeats 4000000 in
theorem pu16_any (t : ByteArray) (hne : t.size ≠ 0) (hs : t.size ≤ 2000000) (w : World) : Calls Tryd.prog 48 #[.string t, .int .i64 16, .int .i64 64] w (PuR w) := by
  have hemp : t.toList.isEmpty = false := by
    rw [show t.toList = t.data.toList from Lib.toList_data _]
    have : t.data.toList ≠ [] := by intro q; apply hne; rw [Lib.size_eq, q]; rfl
    simpa using this
  have hcv := Lib.run_convert_string_bytes (P := Tryd.prog) w 9 69 5 t (u := .string) Tryd.underlying9 Tryd.underlying69 Tryd.underlying5
  have hB : ∀ j, j < t.size → (Lib.bytesWorld w 5 t).cell? ⟨w.heap.size, j, none⟩ = some (.int .u8 (t.data.toList.getD j 0).toNat) := fun j hj => Lib.bytesWorld_cell w 5 t j hj
  have hbw : Below w.heap.size w (Lib.bytesWorld w 5 t) := Lib.bytesWorld_below _ _ _
  obtain ⟨W1, hW1⟩ : ∃ W1, W1 = Lib.bytesWorld w 5 t := ⟨_, rfl⟩
  rw [← hW1] at hcv hB hbw
  clear hW1
  have hBH : Hid (∀ j, j < t.size → ∃ cv : Int, 0 ≤ cv ∧ cv < 256 ∧ W1.cell? ⟨w.heap.size, j, none⟩ = some (.int .u8 cv)) := fun j hj => ⟨_, by omega, by have := (t.data.toList.getD j 0).toNat_lt; omega, hB j hj⟩
  have hbH : Hid (Below w.heap.size w W1) := hbw
  have xIx : ∀ (j cap : Nat), j < t.size → ∀ wx, (Instr.indexAt 69 (.slice (some ⟨w.heap.size, 0, none⟩) t.size cap) (.int .i64 (j : Int))).run Tryd.prog wx = .ok (.pointer (some ⟨w.heap.size, j, none⟩)) wx := fun j cap h wx => by
    have u := Tryd.underlying69
    have z := Tryd.sizeOf5
    have q1 : (j : Int) < t.size := by omega
    have q2 : ¬ (j : Int) < 0 := by omega
    simp [Instr.indexAt, run_underlying u, asIntOf, go_sem, z, q1, q2, h]
  have hmv : IntKind.u64.wrap (IntKind.u64.wrap 18446744073709551616 - 1) = 18446744073709551615 := by
    rw [IntKind.wrap_u64, IntKind.wrap_u64]
    decide
  generalize grownCap w t.size 0 5 = cap at *
  clear hB hbw
  go_enter Tryd.func48, Tryd.ntmps48
  go_wp2
  go_loopw [12, 13, 101] (fun vu vn vi wr => ∃ (k : Nat) (a : Int), vu = .bool false ∧ vn = .int .u64 a ∧ vi = .int .i64 (k : Int) ∧ k ≤ t.size ∧ Hid (0 ≤ a ∧ a < 18446744073709551616) ∧ wr = W1) (fun _ _ vi _ => t.size - (intOf vi).toNat)
  case atStart => exact ⟨0, 0, rfl, rfl, rfl, Nat.zero_le _, ⟨by omega, by omega⟩, rfl⟩
  case round =>
    obtain ⟨k, a, rfl, rfl, rfl, hk, ha, rfl⟩ := hrel
    by_cases hlt : k < t.size
    · have hkI : (k : Int) < t.size := by omega
      obtain ⟨cv, c0, c1, hc⟩ := hBH.out k hlt
      have xk := xIx k cap hlt
      have cL := fun W => Tryd.internal_strconv_lower cv W
      obtain ⟨lv, hlv⟩ : ∃ lv, bits .or .u8 cv 32 = lv := ⟨_, rfl⟩
      simp only [hlv] at cL
      by_cases hdg : 48 ≤ cv ∧ cv ≤ 57
      · have g1 : 48 ≤ cv := hdg.1
        have g2 : cv ≤ 57 := hdg.2
        have d95 : (cv == 95) = false := by (rw [beq_eq_false_iff_ne]; omega)
        have wd : IntKind.u8.wrap (cv - 48) = cv - 48 := by (rw [IntKind.wrap_u8]; omega)
        have d16 : ¬ (16 ≤ cv - 48) := by omega
        clear hdg
        by_cases hcut : a < 1152921504606846976
        · have q1 : ¬ (1152921504606846976 ≤ a) := by omega
          have w1 : IntKind.u64.wrap (a * 16) = a * 16 := by (rw [IntKind.wrap_u64]; have := ha.out; omega)
          have w2 : IntKind.u64.wrap (cv - 48) = cv - 48 := by (rw [IntKind.wrap_u64]; omega)
          have w3 : IntKind.u64.wrap (a * 16 + (cv - 48)) = a * 16 + (cv - 48) := by (rw [IntKind.wrap_u64]; have := ha.out; omega)
          have q2 : ¬ (a * 16 + (cv - 48) < a * 16) := by omega
          have q3 : ¬ (18446744073709551615 < a * 16 + (cv - 48)) := by have := ha.out; omega
          have hn : Hid (0 ≤ a * 16 + (cv - 48) ∧ a * 16 + (cv - 48) < 18446744073709551616) := by have := ha.out; exact ⟨by omega, by omega⟩
          go_wp2_with (first
            | (go_at_call 64; (with_reducible refine (cL _).mono ?_); rintro e w5 ⟨rfl, h9⟩; replace h9 := h9.symm; subst h9))
          go_roundw
          case rel => exact ⟨k + 1, a * 16 + (cv - 48), rfl, rfl, by go_num, by omega, hn, by first | rfl | trivial⟩
          case measure => simp [intOf]; omega
        · have q1 : 1152921504606846976 ≤ a := by omega
          go_wp2_with (first
            | (go_at_call 64; (with_reducible refine (cL _).mono ?_); rintro e w5 ⟨rfl, h9⟩; replace h9 := h9.symm; subst h9))
          go_ret2
          exact ⟨18446744073709551615, _, rfl, ⟨by omega, by omega⟩, .inr (.inr rfl), hbH.out⟩
      · obtain ⟨ub, hub⟩ : ∃ ub, (cv == 95) = ub := ⟨_, rfl⟩
        by_cases hlo : 97 ≤ lv ∧ lv ≤ 122
        · have g1 : 97 ≤ lv := hlo.1
          have g2 : lv ≤ 122 := hlo.2
          have wd : IntKind.u8.wrap (lv - 97) = lv - 97 := by (rw [IntKind.wrap_u8]; omega)
          have wd2 : IntKind.u8.wrap (lv - 97 + 10) = lv - 97 + 10 := by (rw [IntKind.wrap_u8]; omega)
          clear hlo
          by_cases h16 : lv - 97 + 10 < 16
          · have d16 : ¬ (16 ≤ lv - 97 + 10) := by omega
            cases ub with
            | true =>
              by_cases g8 : 48 ≤ cv
              · have g9 : ¬ (cv ≤ 57) := by omega
                by_cases hcut : a < 1152921504606846976
                · have q1 : ¬ (1152921504606846976 ≤ a) := by omega
                  have w1 : IntKind.u64.wrap (a * 16) = a * 16 := by (rw [IntKind.wrap_u64]; have := ha.out; omega)
                  have w2 : IntKind.u64.wrap (lv - 97 + 10) = lv - 97 + 10 := by (rw [IntKind.wrap_u64]; omega)
                  have w3 : IntKind.u64.wrap (a * 16 + (lv - 97 + 10)) = a * 16 + (lv - 97 + 10) := by (rw [IntKind.wrap_u64]; have := ha.out; omega)
                  have q2 : ¬ (a * 16 + (lv - 97 + 10) < a * 16) := by omega
                  have q3 : ¬ (18446744073709551615 < a * 16 + (lv - 97 + 10)) := by have := ha.out; omega
                  have hn : Hid (0 ≤ a * 16 + (lv - 97 + 10) ∧ a * 16 + (lv - 97 + 10) < 18446744073709551616) := by have := ha.out; exact ⟨by omega, by omega⟩
                  go_wp2_with (first
                    | (go_at_call 64; (with_reducible refine (cL _).mono ?_); rintro e w5 ⟨rfl, h9⟩; replace h9 := h9.symm; subst h9))
                  go_roundw
                  case rel => exact ⟨k + 1, a * 16 + (lv - 97 + 10), rfl, rfl, by go_num, by omega, hn, by first | rfl | trivial⟩
                  case measure => simp [intOf]; omega
                · have q1 : 1152921504606846976 ≤ a := by omega
                  go_wp2_with (first
                    | (go_at_call 64; (with_reducible refine (cL _).mono ?_); rintro e w5 ⟨rfl, h9⟩; replace h9 := h9.symm; subst h9))
                  go_ret2
                  exact ⟨18446744073709551615, _, rfl, ⟨by omega, by omega⟩, .inr (.inr rfl), hbH.out⟩
              · skip
                by_cases hcut : a < 1152921504606846976
                · have q1 : ¬ (1152921504606846976 ≤ a) := by omega
                  have w1 : IntKind.u64.wrap (a * 16) = a * 16 := by (rw [IntKind.wrap_u64]; have := ha.out; omega)
                  have w2 : IntKind.u64.wrap (lv - 97 + 10) = lv - 97 + 10 := by (rw [IntKind.wrap_u64]; omega)
                  have w3 : IntKind.u64.wrap (a * 16 + (lv - 97 + 10)) = a * 16 + (lv - 97 + 10) := by (rw [IntKind.wrap_u64]; have := ha.out; omega)
                  have q2 : ¬ (a * 16 + (lv - 97 + 10) < a * 16) := by omega
                  have q3 : ¬ (18446744073709551615 < a * 16 + (lv - 97 + 10)) := by have := ha.out; omega
                  have hn : Hid (0 ≤ a * 16 + (lv - 97 + 10) ∧ a * 16 + (lv - 97 + 10) < 18446744073709551616) := by have := ha.out; exact ⟨by omega, by omega⟩
                  go_wp2_with (first
                    | (go_at_call 64; (with_reducible refine (cL _).mono ?_); rintro e w5 ⟨rfl, h9⟩; replace h9 := h9.symm; subst h9))
                  go_roundw
                  case rel => exact ⟨k + 1, a * 16 + (lv - 97 + 10), rfl, rfl, by go_num, by omega, hn, by first | rfl | trivial⟩
                  case measure => simp [intOf]; omega
                · have q1 : 1152921504606846976 ≤ a := by omega
                  go_wp2_with (first
                    | (go_at_call 64; (with_reducible refine (cL _).mono ?_); rintro e w5 ⟨rfl, h9⟩; replace h9 := h9.symm; subst h9))
                  go_ret2
                  exact ⟨18446744073709551615, _, rfl, ⟨by omega, by omega⟩, .inr (.inr rfl), hbH.out⟩
            | false =>
              by_cases g8 : 48 ≤ cv
              · have g9 : ¬ (cv ≤ 57) := by omega
                by_cases hcut : a < 1152921504606846976
                · have q1 : ¬ (1152921504606846976 ≤ a) := by omega
                  have w1 : IntKind.u64.wrap (a * 16) = a * 16 := by (rw [IntKind.wrap_u64]; have := ha.out; omega)
                  have w2 : IntKind.u64.wrap (lv - 97 + 10) = lv - 97 + 10 := by (rw [IntKind.wrap_u64]; omega)
                  have w3 : IntKind.u64.wrap (a * 16 + (lv - 97 + 10)) = a * 16 + (lv - 97 + 10) := by (rw [IntKind.wrap_u64]; have := ha.out; omega)
                  have q2 : ¬ (a * 16 + (lv - 97 + 10) < a * 16) := by omega
                  have q3 : ¬ (18446744073709551615 < a * 16 + (lv - 97 + 10)) := by have := ha.out; omega
                  have hn : Hid (0 ≤ a * 16 + (lv - 97 + 10) ∧ a * 16 + (lv - 97 + 10) < 18446744073709551616) := by have := ha.out; exact ⟨by omega, by omega⟩
                  go_wp2_with (first
                    | (go_at_call 64; (with_reducible refine (cL _).mono ?_); rintro e w5 ⟨rfl, h9⟩; replace h9 := h9.symm; subst h9))
                  go_roundw
                  case rel => exact ⟨k + 1, a * 16 + (lv - 97 + 10), rfl, rfl, by go_num, by omega, hn, by first | rfl | trivial⟩
                  case measure => simp [intOf]; omega
                · have q1 : 1152921504606846976 ≤ a := by omega
                  go_wp2_with (first
                    | (go_at_call 64; (with_reducible refine (cL _).mono ?_); rintro e w5 ⟨rfl, h9⟩; replace h9 := h9.symm; subst h9))
                  go_ret2
                  exact ⟨18446744073709551615, _, rfl, ⟨by omega, by omega⟩, .inr (.inr rfl), hbH.out⟩
              · skip
                by_cases hcut : a < 1152921504606846976
                · have q1 : ¬ (1152921504606846976 ≤ a) := by omega
                  have w1 : IntKind.u64.wrap (a * 16) = a * 16 := by (rw [IntKind.wrap_u64]; have := ha.out; omega)
                  have w2 : IntKind.u64.wrap (lv - 97 + 10) = lv - 97 + 10 := by (rw [IntKind.wrap_u64]; omega)
                  have w3 : IntKind.u64.wrap (a * 16 + (lv - 97 + 10)) = a * 16 + (lv - 97 + 10) := by (rw [IntKind.wrap_u64]; have := ha.out; omega)
                  have q2 : ¬ (a * 16 + (lv - 97 + 10) < a * 16) := by omega
                  have q3 : ¬ (18446744073709551615 < a * 16 + (lv - 97 + 10)) := by have := ha.out; omega
                  have hn : Hid (0 ≤ a * 16 + (lv - 97 + 10) ∧ a * 16 + (lv - 97 + 10) < 18446744073709551616) := by have := ha.out; exact ⟨by omega, by omega⟩
                  go_wp2_with (first
                    | (go_at_call 64; (with_reducible refine (cL _).mono ?_); rintro e w5 ⟨rfl, h9⟩; replace h9 := h9.symm; subst h9))
                  go_roundw
                  case rel => exact ⟨k + 1, a * 16 + (lv - 97 + 10), rfl, rfl, by go_num, by omega, hn, by first | rfl | trivial⟩
                  case measure => simp [intOf]; omega
                · have q1 : 1152921504606846976 ≤ a := by omega
                  go_wp2_with (first
                    | (go_at_call 64; (with_reducible refine (cL _).mono ?_); rintro e w5 ⟨rfl, h9⟩; replace h9 := h9.symm; subst h9))
                  go_ret2
                  exact ⟨18446744073709551615, _, rfl, ⟨by omega, by omega⟩, .inr (.inr rfl), hbH.out⟩
          · have d16 : 16 ≤ lv - 97 + 10 := by omega
            cases ub with
            | true =>
              by_cases g8 : 48 ≤ cv
              · have g9 : ¬ (cv ≤ 57) := by omega
                go_wp2_with (first
                  | (go_at_call 64; (with_reducible refine (cL _).mono ?_); rintro e w5 ⟨rfl, h9⟩; replace h9 := h9.symm; subst h9))
                go_ret2
                exact ⟨0, _, rfl, ⟨by omega, by omega⟩, .inr (.inl rfl), hbH.out⟩
              · skip
                go_wp2_with (first
                  | (go_at_call 64; (with_reducible refine (cL _).mono ?_); rintro e w5 ⟨rfl, h9⟩; replace h9 := h9.symm; subst h9))
                go_ret2
                exact ⟨0, _, rfl, ⟨by omega, by omega⟩, .inr (.inl rfl), hbH.out⟩
            | false =>
              by_cases g8 : 48 ≤ cv
              · have g9 : ¬ (cv ≤ 57) := by omega
                go_wp2_with (first
                  | (go_at_call 64; (with_reducible refine (cL _).mono ?_); rintro e w5 ⟨rfl, h9⟩; replace h9 := h9.symm; subst h9))
                go_ret2
                exact ⟨0, _, rfl, ⟨by omega, by omega⟩, .inr (.inl rfl), hbH.out⟩
              · skip
                go_wp2_with (first
                  | (go_at_call 64; (with_reducible refine (cL _).mono ?_); rintro e w5 ⟨rfl, h9⟩; replace h9 := h9.symm; subst h9))
                go_ret2
                exact ⟨0, _, rfl, ⟨by omega, by omega⟩, .inr (.inl rfl), hbH.out⟩
        · skip
          by_cases g1 : 97 ≤ lv
          · have g2 : ¬ (lv ≤ 122) := by omega
            cases ub with
            | true =>
              by_cases g8 : 48 ≤ cv
              · have g9 : ¬ (cv ≤ 57) := by omega
                go_wp2_with (first
                  | (go_at_call 64; (with_reducible refine (cL _).mono ?_); rintro e w5 ⟨rfl, h9⟩; replace h9 := h9.symm; subst h9))
                go_ret2
                exact ⟨0, _, rfl, ⟨by omega, by omega⟩, .inr (.inl rfl), hbH.out⟩
              · skip
                go_wp2_with (first
                  | (go_at_call 64; (with_reducible refine (cL _).mono ?_); rintro e w5 ⟨rfl, h9⟩; replace h9 := h9.symm; subst h9))
                go_ret2
                exact ⟨0, _, rfl, ⟨by omega, by omega⟩, .inr (.inl rfl), hbH.out⟩
            | false =>
              by_cases g8 : 48 ≤ cv
              · have g9 : ¬ (cv ≤ 57) := by omega
                go_wp2_with (first
                  | (go_at_call 64; (with_reducible refine (cL _).mono ?_); rintro e w5 ⟨rfl, h9⟩; replace h9 := h9.symm; subst h9))
                go_ret2
                exact ⟨0, _, rfl, ⟨by omega, by omega⟩, .inr (.inl rfl), hbH.out⟩
              · skip
                go_wp2_with (first
                  | (go_at_call 64; (with_reducible refine (cL _).mono ?_); rintro e w5 ⟨rfl, h9⟩; replace h9 := h9.symm; subst h9))
                go_ret2
                exact ⟨0, _, rfl, ⟨by omega, by omega⟩, .inr (.inl rfl), hbH.out⟩
          · skip
            cases ub with
            | true =>
              by_cases g8 : 48 ≤ cv
              · have g9 : ¬ (cv ≤ 57) := by omega
                go_wp2_with (first
                  | (go_at_call 64; (with_reducible refine (cL _).mono ?_); rintro e w5 ⟨rfl, h9⟩; replace h9 := h9.symm; subst h9))
                go_ret2
                exact ⟨0, _, rfl, ⟨by omega, by omega⟩, .inr (.inl rfl), hbH.out⟩
              · skip
                go_wp2_with (first
                  | (go_at_call 64; (with_reducible refine (cL _).mono ?_); rintro e w5 ⟨rfl, h9⟩; replace h9 := h9.symm; subst h9))
                go_ret2
                exact ⟨0, _, rfl, ⟨by omega, by omega⟩, .inr (.inl rfl), hbH.out⟩
            | false =>
              by_cases g8 : 48 ≤ cv
              · have g9 : ¬ (cv ≤ 57) := by omega
                go_wp2_with (first
                  | (go_at_call 64; (with_reducible refine (cL _).mono ?_); rintro e w5 ⟨rfl, h9⟩; replace h9 := h9.symm; subst h9))
                go_ret2
                exact ⟨0, _, rfl, ⟨by omega, by omega⟩, .inr (.inl rfl), hbH.out⟩
              · skip
                go_wp2_with (first
                  | (go_at_call 64; (with_reducible refine (cL _).mono ?_); rintro e w5 ⟨rfl, h9⟩; replace h9 := h9.symm; subst h9))
                go_ret2
                exact ⟨0, _, rfl, ⟨by omega, by omega⟩, .inr (.inl rfl), hbH.out⟩
    · have hke : k = t.size := by omega
      have hkI : ¬ ((k : Int) < t.size) := by omega
      go_wp2
      go_ret2
      exact ⟨a, _, rfl, ha.out, .inl rfl, hbH.out⟩
end Go.Proofs.YtgmpdnmheiblpaaDoor.pg
/- The text of a number, read back: of no program. -/
namespace Go.Proofs.YtgmpdnmheiblpaaDoor.texts
open Go.Lib
theorem digit_toNat (d : Nat) (h : d < 10) : (UInt8.ofNat (48 + d)).toNat = 48 + d := by
  rw [UInt8.toNat_ofNat']; omega
theorem parse_dec (u : Nat) : ∀ r, u < 18446744073709551616 → parseUintM (2 ^ 64 - 1) 0 (decDigits u ++ r) = parseUintM (2 ^ 64 - 1) u r := by
  induction u using Nat.strongRecOn with
  | _ u ih =>
    intro r hu
    rw [decDigits]
    by_cases h : u < 10
    · rw [dif_pos h]
      simp only [List.cons_append, List.nil_append, parseUintM, digit_toNat u h]
      rw [if_pos (by omega), if_neg (by omega), if_neg (by omega)]
      rw [show 0 * 10 + (48 + u - 48) = u by omega]
    · rw [dif_neg h, List.append_assoc, ih (u / 10) (by omega) _ (by omega)]
      simp only [List.cons_append, List.nil_append, parseUintM, digit_toNat (u % 10) (by omega)]
      rw [if_pos (by omega), if_neg (by omega), if_neg (by omega)]
      rw [show u / 10 * 10 + (48 + u % 10 - 48) = u by omega]
theorem dec_ne (u : Nat) : decDigits u ≠ [] := by
  rw [decDigits]; split <;> simp
theorem parse_decB (u : Nat) (hu : u < 18446744073709551616) : parseUintB 64 (decDigits u) = .ok u := by
  rw [parseUintB, if_neg (dec_ne u)]
  have := parse_dec u [] hu
  rw [List.append_nil] at this
  rw [this]; rfl
theorem dec_head (u : Nat) : ∃ c r, decDigits u = c :: r ∧ 48 ≤ c.toNat ∧ c.toNat ≤ 57 := by
  induction u using Nat.strongRecOn with
  | _ u ih =>
    rw [decDigits]
    by_cases h : u < 10
    · rw [dif_pos h]; exact ⟨_, _, rfl, by rw [digit_toNat u h]; omega, by rw [digit_toNat u h]; omega⟩
    · rw [dif_neg h]
      obtain ⟨c, r, e, h1, h2⟩ := ih (u / 10) (by omega)
      exact ⟨c, r ++ [UInt8.ofNat (48 + u % 10)], by rw [e]; rfl, h1, h2⟩
theorem parse_itoa (n : Int) (h0 : -9223372036854775808 ≤ n) (h1 : n ≤ 9223372036854775807) : parseIntB 64 (itoa n) = .ok n := by
  unfold itoa
  by_cases h : n < 0
  · rw [if_pos h]
    have e : parseUintB 64 (decDigits n.natAbs) = .ok n.natAbs := parse_decB _ (by omega)
    have h45 : (45 : UInt8).toNat = 45 := rfl
    simp only [parseIntB, h45, or_true, if_true, e, not_true, false_and, if_false, true_and]
    rw [if_neg (by omega)]
    congr 1; omega
  · rw [if_neg h]
    obtain ⟨c, r, e, c1, c2⟩ := dec_head n.toNat
    have e2 : parseUintB 64 (decDigits n.toNat) = .ok n.toNat := parse_decB _ (by omega)
    rw [e] at e2 ⊢
    have n43 : ¬ c.toNat = 43 := by omega
    have n45 : ¬ c.toNat = 45 := by omega
    simp only [parseIntB, n43, n45, or_self, if_false, e2, not_false_eq_true, true_and, false_and]
    rw [if_neg (by omega)]
    congr 1; omega
end Go.Proofs.YtgmpdnmheiblpaaDoor.texts
/- Package asm's Number of any text. -/
namespace Go.Proofs.YtgmpdnmheiblpaaDoor.pg
open Go.ChangeShapes Go.WideShapes Go.ChangeAt Go.RowKit
set_option linter.unusedVariables false
set_option linter.unusedSimpArgs false
set_option maxRecDepth 100000
attribute [local go_sem ↓] Go.wp_at_zero Go.wp_at_succ
theorem itoa_sz (n : Int) (h : I64 n) : (Lib.itoa n).length ≤ 21 := Lib.itoa_length_le n h.1 h.2
theorem itoa_hex (X : Int) : Lib.hasPrefix (Lib.itoa X) [48, 120] = false := by
  have h : ∀ u, ∀ c ∈ Lib.decDigits u, c.toNat ≤ 57 := fun u c hc => ((dec_all u).2 c hc).2
  unfold Lib.hasPrefix Lib.itoa
  split
  · rfl
  · have h := h X.toNat
    match hd : Lib.decDigits X.toNat, h with
    | [], _ => rfl
    | [c], _ => simp [List.isPrefixOf]
    | c :: d :: r, h =>
      have hd' : d.toNat ≤ 57 := h d (by simp)
      have : ¬ (120 : UInt8) = d := by intro e; rw [← e] at hd'; exact absurd hd' (by decide)
      simp [List.isPrefixOf, this]
/-- What number a text is, if any. -/
def NumR (l : List UInt8) (v : Int) (b : Bool) : Prop := (b = true ∧ I64 v ∧ Lib.itoa v = l) ∨ (b = false ∧ v = 0 ∧ ∀ X, I64 X → Lib.itoa X ≠ l)
theorem NumR.one {l : List UInt8} {v v' : Int} {b b' : Bool} (h : NumR l v b) (h' : NumR l v' b') : v = v' ∧ b = b' := by
  rcases h with ⟨h1, h2, h3⟩ | ⟨h1, h2, h3⟩
  · rcases h' with ⟨g1, g2, g3⟩ | ⟨g1, g2, g3⟩
    · exact ⟨itoa_inj (h3.trans g3.symm), by rw [h1, g1]⟩
    · exact absurd h3 (g3 v h2)
  · rcases h' with ⟨g1, g2, g3⟩ | ⟨g1, g2, g3⟩
    · exact absurd g3 (h3 v' g2)
    · exact ⟨by rw [h2, g2], by rw [h1, g1]⟩
theorem parse_in {l : List UInt8} {v : Int} (h : Lib.parseIntB 64 l = .ok v) : I64 v := by
  unfold I64
  cases l with
  | nil => cases h
  | cons c r =>
    simp only [Lib.parseIntB] at h
    cases hq : Lib.parseUintB 64 (if c.toNat = 43 ∨ c.toNat = 45 then r else c :: r) with
    | «syntax» => rw [hq] at h; cases h
    | range => rw [hq] at h; cases h
    | ok u =>
      rw [hq] at h
      simp only at h
      by_cases hn : c.toNat = 45
      · simp only [hn, not_true, false_and, if_false, true_and, if_true] at h
        split at h
        · cases h
        · injection h with h
          omega
      · simp only [hn, not_false_eq_true, false_and, if_false, true_and] at h
        split at h
        · cases h
        · injection h with h
          omega
theorem ppu16_any (t : ByteArray) (hs : t.size ≤ 2000000) (w : World) (hV : Vars w) : Calls Tryd.prog 36 #[.string t, .int .i64 16, .int .i64 64] w fun e w' => ∃ u x, e = .returned (.tuple #[.int .u64 u, x]) ∧ (0 ≤ u ∧ u < 18446744073709551616) ∧ (x = .nilIface ∨ ∃ T N, x = .iface T (.pointer (some ⟨N, 0, none⟩))) ∧ Below w.heap.size w w' := by
  have cI : Calls Tryd.prog 48 #[.string t, .int .i64 16, .int .i64 64] w (PuR w) := by
    by_cases h : t.size = 0
    · have e : t = ⟨#[]⟩ := by
        cases t with
        | mk d => congr; exact Array.eq_empty_of_size_eq_zero h
      rw [e]
      refine (Tryd.internal_strconv_ParseUint_empty 16 64 w).mono ?_
      rintro e w' ⟨rfl, rfl⟩
      exact ⟨0, _, rfl, ⟨by omega, by omega⟩, .inr (.inl rfl), Below.refl _ _⟩
    · exact pu16_any t h hs w
  obtain ⟨es, hes, hes2⟩ := hV.es
  obtain ⟨er, her, her2⟩ := hV.er
  have cS : ∀ W, Below w.heap.size w W → Calls Tryd.prog 38 #[.string ⟨#[80, 97, 114, 115, 101, 85, 105, 110, 116]⟩, .string t, .int .i64 16, .int .i64 64, .iface 86 (.int .i64 2)] W _ := fun W hW => Tryd.strconv_toError_syntax ⟨#[80, 97, 114, 115, 101, 85, 105, 110, 116]⟩ t 16 64 es W (by omega) (cell_later hW hes) hes2
  have cG : ∀ W, Below w.heap.size w W → Calls Tryd.prog 38 #[.string ⟨#[80, 97, 114, 115, 101, 85, 105, 110, 116]⟩, .string t, .int .i64 16, .int .i64 64, .iface 86 (.int .i64 1)] W _ := fun W hW => Tryd.strconv_toError_range ⟨#[80, 97, 114, 115, 101, 85, 105, 110, 116]⟩ t 16 64 er W (by omega) (cell_later hW her) her2
  clear hV hes her hes2 her2
  go_enter Tryd.func36, Tryd.ntmps36
  go_upto_region 2 with (go_at_call 48; (with_reducible refine cI.mono ?_); rintro e w2 ⟨u, x, rfl, hu, hx, hb2⟩)
  have xS := cS w2 hb2
  have xG := cG w2 hb2
  have huH : Hid (0 ≤ u ∧ u < 18446744073709551616) := hu
  clear cS cG cI hu
  rcases hx with rfl | rfl | rfl
  · go_wp2
    go_ret2
    exact ⟨u, _, rfl, huH.out, .inl rfl, hb2⟩
  · go_wp2_with (go_at_call 38; (with_reducible refine xS.mono ?_); rintro e w3 ⟨N, rfl, _, _, hb3⟩)
    go_ret2
    exact ⟨u, _, rfl, huH.out, .inr ⟨_, _, rfl⟩, bthen hb2 hb3⟩
  · go_wp2_with (go_at_call 38; (with_reducible refine xG.mono ?_); rintro e w3 ⟨N, rfl, _, _, hb3⟩)
    go_ret2
    exact ⟨u, _, rfl, huH.out, .inr ⟨_, _, rfl⟩, bthen hb2 hb3⟩
theorem bits_any (t : ByteArray) (hs : t.size ≤ 2000000) (w : World) (hV : Vars w) : Calls Tryd.prog 26 #[.string t] w fun e w' => ∃ v x, e = .returned (.tuple #[.int .i64 v, .int .i64 x]) ∧ I64 v ∧ Below w.heap.size w w' := by
  by_cases h16 : 16 < t.size
  · have hI : (16 : Int) < t.size := by omega
    go_enter Tryd.func26, Tryd.ntmps26
    go_wp2
    go_ret2
    exact ⟨0, _, rfl, by unfold I64; omega, Below.refl _ _⟩
  have hI : ¬ ((16 : Int) < t.size) := by omega
  have cP := ppu16_any t hs w hV
  go_enter Tryd.func26, Tryd.ntmps26
  go_upto_region 4 with (go_at_call 36; (with_reducible refine cP.mono ?_); rintro e w2 ⟨u, x, rfl, hu, hx, hb2⟩)
  rcases hx with rfl | ⟨T, N, rfl⟩
  · have hw : I64 (IntKind.i64.wrap u) := by (unfold I64; rw [IntKind.wrap_i64]; omega)
    generalize hg : IntKind.i64.wrap u = y at *
    go_wp2
    go_ret2
    exact ⟨y, _, rfl, hw, hb2⟩
  · go_wp2
    go_ret2
    exact ⟨0, _, rfl, by unfold I64; omega, hb2⟩
/-- Parse of any text: the number that it says, or that it is none. -/
theorem parse_gen (s : ByteArray) (hs : s.size ≤ 2000000) (w : World) (hV : Vars w) : Calls Tryd.prog 15 #[.string s] w fun e w' => ∃ v x, e = .returned (.tuple #[.int .i64 v, .int .i64 x]) ∧ I64 v ∧ ((x = 0 ∧ Lib.itoa v = s.data.toList) ∨ ∀ X, I64 X → Lib.itoa X ≠ s.data.toList) ∧ Below w.heap.size w w' := by
  have hln : s.data.toList.length = s.size := (Lib.size_eq s).symm
  have i0 : I64 0 := by unfold I64; omega
  by_cases hbig : 65536 < s.size
  · have hI : (65536 : Int) < s.size := by omega
    have hno : ∀ X, I64 X → Lib.itoa X ≠ s.data.toList := fun X hX q => by have := itoa_sz X hX; rw [q, hln] at this; omega
    go_enter Tryd.func15, Tryd.ntmps15
    go_wp2
    go_ret2
    exact ⟨0, _, rfl, i0, .inr hno, Below.refl _ _⟩
  have hI : ¬ ((65536 : Int) < s.size) := by omega
  have cC := Tryd.strings_CutPrefix s ⟨#[48, 120]⟩ w
  obtain ⟨hp, hhp⟩ : ∃ hp, Hid (Lib.hasPrefix s.data.toList (⟨#[48, 120]⟩ : ByteArray).data.toList = hp) := ⟨_, rfl⟩
  rw [hhp.out] at cC
  cases hp with
  | true =>
    have hno : ∀ X, I64 X → Lib.itoa X ≠ s.data.toList := fun X hX q => by
      have h1 := itoa_hex X
      rw [q] at h1
      have h2 : Lib.hasPrefix s.data.toList [48, 120] = true := hhp.out
      rw [h1] at h2
      cases h2
    have hnoH : Hid (∀ X, I64 X → Lib.itoa X ≠ s.data.toList) := hno
    have hle : (Lib.trimPrefix s.data.toList (⟨#[48, 120]⟩ : ByteArray).data.toList).length ≤ s.size := by
      rw [← hln]
      unfold Lib.trimPrefix
      split
      · rw [List.length_drop]; omega
      · exact Nat.le_refl _
    have cB := bits_any ⟨(Lib.trimPrefix s.data.toList (⟨#[48, 120]⟩ : ByteArray).data.toList).toArray⟩ (by rw [Lib.size_eq]; exact Nat.le_trans hle hs) w hV
    generalize (Lib.trimPrefix s.data.toList (⟨#[48, 120]⟩ : ByteArray).data.toList).toArray = T at *
    clear hno hle hhp hV
    go_enter Tryd.func15, Tryd.ntmps15
    go_wp2_with (first
      | (go_at_call 25; (with_reducible refine cC.mono ?_); rintro e w' ⟨rfl, h9⟩; replace h9 := h9.symm; subst h9)
      | (go_at_call 26; (with_reducible refine cB.mono ?_); rintro e w2 ⟨v, x, rfl, hv, hb2⟩))
    go_ret2
    exact ⟨v, x, rfl, hv, .inr hnoH.out, hb2⟩
  | false =>
    have hT : Hid (Tab w) := hV.tb
    cases hq : Lib.parseIntB 64 s.data.toList with
    | ok v =>
      have hv := parse_in hq
      have cP : Calls Tryd.prog 27 #[.string s, .int .i64 10, .int .i64 64] w fun e w2 => e = .returned (.tuple #[.int .i64 v, .nilIface]) ∧ Below w.heap.size w w2 :=
        (Tryd.strconv_ParseInt_10_at64_ok s (by omega) v hq w).mono fun e w2 ⟨he, hw⟩ => ⟨he, by
          rcases hw with rfl | ⟨t, rfl⟩
          · exact Below.refl _ _
          · exact Lib.bytesWorld_below _ _ _⟩
      have cT := fun W (h : Tab W) => text_anyT v hv W h
      by_cases hsame : numK v = s
      · have hit : Hid (Lib.itoa v = s.data.toList) := by (show _ = _; rw [← hsame, numK_list])
        have hvH : Hid (I64 v) := hv
        have hsm : ((s.toList == s.toList)) = true := by simp
        rw [hsame] at cT
        clear hq hsame hv hhp
        go_enter Tryd.func15, Tryd.ntmps15
        go_wp2_with (first
          | (go_at_call 25; (with_reducible refine cC.mono ?_); rintro e w' ⟨rfl, h9⟩; replace h9 := h9.symm; subst h9)
          | (go_at_call 27; (with_reducible refine cP.mono ?_); rintro e w2 ⟨rfl, hb2⟩; (have xT := cT w2 (hT.out.later hb2)))
          | (go_at_call 16; (with_reducible refine xT.mono ?_); rintro e w3 ⟨rfl, hb3⟩))
        go_ret2
        exact ⟨v, _, rfl, hvH.out, .inl ⟨rfl, hit.out⟩, bthen hb2 hb3⟩
      · have hno : Hid (∀ X, I64 X → Lib.itoa X ≠ s.data.toList) := fun X hX q => by
          have h1 := texts.parse_itoa X hX.1 hX.2
          rw [q, hq] at h1
          injection h1 with h1
          apply hsame
          rw [h1, ← mkB_of s, ← q]
          rfl
        have hne : ((numK v).toList == s.toList) = false := by
          rw [Bool.eq_false_iff]
          intro q
          rw [bytes_beqW] at q
          exact hsame q
        generalize numK v = K at *
        clear hq hsame hv hhp
        go_enter Tryd.func15, Tryd.ntmps15
        go_wp2_with (first
          | (go_at_call 25; (with_reducible refine cC.mono ?_); rintro e w' ⟨rfl, h9⟩; replace h9 := h9.symm; subst h9)
          | (go_at_call 27; (with_reducible refine cP.mono ?_); rintro e w2 ⟨rfl, hb2⟩; (have xT := cT w2 (hT.out.later hb2)))
          | (go_at_call 16; (with_reducible refine xT.mono ?_); rintro e w3 ⟨rfl, hb3⟩))
        go_ret2
        exact ⟨0, _, rfl, i0, .inr hno.out, bthen hb2 hb3⟩
    | «syntax» =>
      have hno : Hid (∀ X, I64 X → Lib.itoa X ≠ s.data.toList) := fun X hX q => by
        have h1 := texts.parse_itoa X hX.1 hX.2
        rw [q, hq] at h1
        cases h1
      obtain ⟨ev, h1, h2⟩ := hV.es
      have cP := Tryd.strconv_ParseInt_10_at64_syntax s (by omega) hq ev w h1 h2
      clear hq h1 h2 hV hhp
      go_enter Tryd.func15, Tryd.ntmps15
      go_wp2_with (first
        | (go_at_call 25; (with_reducible refine cC.mono ?_); rintro e w' ⟨rfl, h9⟩; replace h9 := h9.symm; subst h9)
        | (go_at_call 27; (with_reducible refine cP.mono ?_); rintro e w2 ⟨NN, rfl, _, _, hb2⟩))
      go_ret2
      exact ⟨0, _, rfl, i0, .inr hno.out, hb2⟩
    | range =>
      have hno : Hid (∀ X, I64 X → Lib.itoa X ≠ s.data.toList) := fun X hX q => by
        have h1 := texts.parse_itoa X hX.1 hX.2
        rw [q, hq] at h1
        cases h1
      obtain ⟨ev, h1, h2⟩ := hV.er
      have cP := Tryd.strconv_ParseInt_10_at64_range s (by omega) hq ev w h1 h2
      generalize Lib.intSat 64 s.data.toList = sat at *
      clear hq h1 h2 hV hhp
      go_enter Tryd.func15, Tryd.ntmps15
      go_wp2_with (first
        | (go_at_call 25; (with_reducible refine cC.mono ?_); rintro e w' ⟨rfl, h9⟩; replace h9 := h9.symm; subst h9)
        | (go_at_call 27; (with_reducible refine cP.mono ?_); rintro e w2 ⟨NN, rfl, _, _, hb2⟩))
      go_ret2
      exact ⟨0, _, rfl, i0, .inr hno.out, hb2⟩
theorem anum_any (s : ByteArray) (hs : s.size ≤ 2000000) (w : World) (hV : Vars w) : Calls Tryd.prog 5 #[.string s] w fun e w' => ∃ v b, e = .returned (.tuple #[.int .i64 v, .bool b]) ∧ NumR s.data.toList v b ∧ Below w.heap.size w w' := by
  have cP := parse_gen s hs w hV
  have hT : Hid (Tab w) := hV.tb
  clear hV
  go_enter Tryd.func5, Tryd.ntmps5
  go_upto_region 2 with (go_at_call 15; (with_reducible refine cP.mono ?_); rintro e w2 ⟨v, x, rfl, hv, hx, hb2⟩)
  have cT := text_anyT v hv w2 (hT.out.later hb2)
  by_cases hx0 : x = 0
  · subst hx0
    by_cases hsame : numK v = s
    · have hR : Hid (NumR s.data.toList v true) := .inl ⟨rfl, hv, by rw [← hsame, numK_list]⟩
      rw [hsame] at cT
      clear hx hv hsame cP
      go_wp2_with (first
        | (go_at_call 16; (with_reducible refine cT.mono ?_); rintro e w3 ⟨rfl, hb3⟩))
      go_ret2
      exact ⟨v, true, rfl, hR.out, bthen hb2 hb3⟩
    · have hR : Hid (NumR s.data.toList 0 false) := .inr ⟨rfl, rfl, by
        rcases hx with ⟨_, h⟩ | h
        · exact absurd (by rw [← mkB_of s, ← h]; rfl) hsame
        · exact h⟩
      have hne : ((numK v).toList == s.toList) = false := by
        rw [Bool.eq_false_iff]
        intro q
        rw [bytes_beqW] at q
        exact hsame q
      generalize numK v = K at *
      clear hx hv hsame cP
      go_wp2_with (first
        | (go_at_call 16; (with_reducible refine cT.mono ?_); rintro e w3 ⟨rfl, hb3⟩))
      go_ret2
      exact ⟨0, false, rfl, hR.out, bthen hb2 hb3⟩
  · have hR : Hid (NumR s.data.toList 0 false) := .inr ⟨rfl, rfl, by
      rcases hx with ⟨h, _⟩ | h
      · exact absurd h hx0
      · exact h⟩
    have d : (x != 0) = true := by simpa using hx0
    clear hx hx0 cT cP
    go_wp2_with fail
    go_ret2
    exact ⟨0, false, rfl, hR.out, hb2⟩
end Go.Proofs.YtgmpdnmheiblpaaDoor.pg
