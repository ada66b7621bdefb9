/- Clocks held against each other; whether they are right. -/
import Derived.Test.YtbajfgllgfmnfaaCk0
import Derived.Test.YtbajfgllgfmnfaaCls
import Derived.ChangeKeysEq
import Derived.Lib.MinMax
namespace Go.Proofs.Ytbajfgllgfmnfaa.pg
open Go.ChangeShapes Go.WideShapes Go.ChangeAt Go.RowKit
set_option linter.unusedVariables false
set_option linter.unusedSimpArgs false
set_option maxRecDepth 100000
attribute [local go_sem ↓] Go.wp_at_zero Go.wp_at_succ
theorem infoI_some : ∃ i, Try.prog.info? 3 = some i := by
  have h : (Try.prog.info? 3).isSome = true := by kernel_rfl
  exact Option.isSome_iff_exists.mp h
theorem run_inK (x y : Ck) (w : World) : (Op.equalIn 10000 40 x.val y.val).run Try.prog w = .ok (eqK x y) w := by
  obtain ⟨i, hi⟩ := infoI_some
  have hc1 : Try.prog.cellsOf 3 = 1 := by kernel_rfl
  have u1 := Try.underlying3
  have a1 := Try.isAgg3
  have z1 := Try.sizeOf3
  rw [show (10000 : Nat) = 9999 + 1 from rfl, run_equalIn_array w 9999 _ _ Try.underlying40 hi, hc1]
  simp only [List.range, List.range.loop, Op.eqItems]
  go_simp
  by_cases h0 : x.c0 = y.c0 <;> simp [eqK, h0]
  by_cases h1 : x.c1 = y.c1 <;> simp [h1]
  by_cases h2 : x.c2 = y.c2 <;> simp [h2]
  by_cases h3 : x.c3 = y.c3 <;> simp [h3]
  by_cases h4 : x.c4 = y.c4 <;> simp [h4]
  by_cases h5 : x.c5 = y.c5 <;> simp [h5]
theorem run_eqK (x y : Ck) (w : World) : (binOp .eql 40 x.val y.val).run Try.prog w = .ok (.bool (eqK x y)) w := by
  rw [run_eql_struct, run_inK]; rfl
theorem run_neK (x y : Ck) (w : World) : (binOp .neq 40 x.val y.val).run Try.prog w = .ok (.bool (!eqK x y)) w := by
  rw [run_neq_struct, run_inK]; rfl
theorem check_ok (x : Ck) (hx : x.ok) (w : World) : Calls Try.prog 80 #[x.val] w fun e w' => e = .returned (.int .i64 0) ∧ Below w.heap.size w w' := by
  have hxH : Hid x.ok := hx
  clear hx
  go_enter Try.func80, Try.ntmps80
  go_wp2
  go_loopw [6] (fun u wr => ∃ k : Nat, k ≤ 6 ∧ u = .int .i64 k ∧ wr = w.alloc (objK x)) (fun u _ => 6 - (intOf u).toNat)
  case atStart => exact ⟨0, by omega, rfl, rfl⟩
  case round =>
    obtain ⟨k, hk, rfl, rfl⟩ := hrel
    by_cases hlt : k < 6
    · obtain ⟨n, hn, hm⟩ := get_lt x.list k hlt
      have hix := ck_ix x k n hn
      have h1 : ¬ n < 0 := by have := hxH.out n hm; unfold okC at this; omega
      have h2 : ¬ 1073741824 < n := by have := hxH.out n hm; unfold okC at this; omega
      have hkI : (k : Int) < 6 := by omega
      clear hn hm
      go_wp2
      go_roundw
      case rel => exact ⟨k + 1, by omega, by go_num, trivial⟩
      case measure => simp [intOf]; omega
    · have hk6 : k = 6 := by omega
      subst hk6
      go_wp2
      go_ret
      exact ⟨rfl, boxed _ _⟩
theorem check_bad (x : Ck) (hx : ¬ x.ok) (w : World) : Calls Try.prog 80 #[x.val] w fun e w' => e = .returned (.int .i64 1) ∧ Below w.heap.size w w' := by
  have hxH : Hid (¬ x.ok) := hx
  clear hx
  go_enter Try.func80, Try.ntmps80
  go_wp2
  go_loopw [6] (fun u wr => ∃ k : Nat, k ≤ 6 ∧ u = .int .i64 k ∧ wr = w.alloc (objK x) ∧ Hid (∀ n ∈ x.list.take k, okC n)) (fun u _ => 6 - (intOf u).toNat)
  case atStart => exact ⟨0, by omega, rfl, rfl, fun n hn => by simp at hn⟩
  case round =>
    obtain ⟨k, hk, rfl, rfl, hno⟩ := hrel
    by_cases hlt : k < 6
    · obtain ⟨n, hn, hm⟩ := get_lt x.list k hlt
      have hix := ck_ix x k n hn
      have hkI : (k : Int) < 6 := by omega
      have hnH : Hid (x.list[k]? = some n) := hn
      clear hn hm
      by_cases h1 : n < 0
      · go_wp2
        go_ret
        exact ⟨rfl, boxed _ _⟩
      · by_cases h2 : 1073741824 < n
        · go_wp2
          go_ret
          exact ⟨rfl, boxed _ _⟩
        · have hno2 : Hid (∀ n ∈ x.list.take (k + 1), okC n) := fun z hz => by
            rw [List.take_add_one, hnH.out] at hz
            simp only [Option.toList_some, List.mem_append, List.mem_singleton] at hz
            rcases hz with hz | rfl
            · exact hno.out z hz
            · exact ⟨by omega, by omega⟩
          go_wp2
          go_roundw
          case rel => exact ⟨k + 1, by omega, by go_num, trivial, hno2⟩
          case measure => simp [intOf]; omega
    · have hk6 : k = 6 := by omega
      subst hk6
      exact absurd (fun n hn => hno.out n (by rw [List.take_of_length_le (by rw [Ck.list_len]; omega)]; exact hn)) hxH.out
end Go.Proofs.Ytbajfgllgfmnfaa.pg
