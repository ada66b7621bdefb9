/- The document's own Clash. -/
import Derived.Test.YtbajfgllgfmnfaaDp1
namespace Go.Proofs.Ytbajfgllgfmnfaa.pg
open Go.ChangeShapes Go.WideShapes Go.ChangeAt Go.RowKit
set_option linter.unusedVariables false
set_option linter.unusedSimpArgs false
set_option maxRecDepth 100000
attribute [local go_sem ↓] Go.wp_at_zero Go.wp_at_succ
theorem meets_cases (x y : Acc) : ((x.kind == y.kind) = false ∧ meets x y = false) ∨ ((x.kind == y.kind) = true ∧ (x.num == y.num) = false ∧ meets x y = false) ∨ ((x.kind == y.kind) = true ∧ (x.num == y.num) = true ∧ x.wr = true ∧ meets x y = true) ∨ ((x.kind == y.kind) = true ∧ (x.num == y.num) = true ∧ x.wr = false ∧ y.wr = true ∧ meets x y = true) ∨ ((x.kind == y.kind) = true ∧ (x.num == y.num) = true ∧ x.wr = false ∧ y.wr = false ∧ meets x y = false) := by
  cases h0 : (x.kind == y.kind) <;> cases h1 : (x.num == y.num) <;> cases h2 : x.wr <;> cases h3 : y.wr <;> simp [meets, h0, h1, h2, h3]
set_option maxHeartbeats 400000 in
theorem rclash_any (a b : List Acc) (aa ba : Option Addr) (ac bc : Nat) (w : World) (ha : Rows w 3 aa ac (a.map Acc.cells)) (hb : Rows w 3 ba bc (b.map Acc.cells)) (R : Bool) (hR : Hid (R = clash a b)) :
    Calls Try.prog 52 #[.slice aa a.length ac, .slice ba b.length bc] w fun e w' => e = .returned (.bool R) ∧ ∃ n, w' = w.drewN n := by
  have la := rows_len ha
  have lb := rows_len hb
  have haH : Hid (Rows w 3 aa ac (a.map Acc.cells)) := ha
  have hbH : Hid (Rows w 3 ba bc (b.map Acc.cells)) := hb
  clear ha hb
  go_enter Try.func52, Try.ntmps52
  go_wp2
  go_loopw [5] (fun u wr => ∃ j n : Nat, j ≤ a.length ∧ u = .int .i64 j ∧ wr = w.drewN n ∧ Hid (∀ x ∈ a.take j, ∀ y ∈ b, meets x y = false)) (fun u _ => a.length - (intOf u).toNat)
  case atStart => exact ⟨0, 0, Nat.zero_le _, rfl, rfl, fun s hs => by simp at hs⟩
  case round =>
    obtain ⟨j, n, hj, rfl, rfl, hno⟩ := hrel
    by_cases hlt : j < a.length
    · obtain ⟨x, hx, hxm⟩ := get_lt a j hlt
      obtain ⟨b0, o0, hix, hbl, k0, k1, k2⟩ := acc_ix haH.out j x hx
      have hjI : (j : Int) < a.length := by omega
      go_wp2
      go_loopw [6] (fun u wr => ∃ k n : Nat, k ≤ b.length ∧ u = .int .i64 k ∧ wr = w.drewN n ∧ Hid (∀ y ∈ b.take k, meets x y = false)) (fun u _ => b.length - (intOf u).toNat)
      case atStart => exact ⟨0, n, Nat.zero_le _, rfl, rfl, fun s hs => by simp at hs⟩
      case round =>
        obtain ⟨k, n2, hk, rfl, rfl, hno2⟩ := hrel
        by_cases hlt2 : k < b.length
        · obtain ⟨y, hy, hym⟩ := get_lt b k hlt2
          obtain ⟨b1, o1, hix1, hbl1, m0, m1, m2⟩ := acc_ix hbH.out k y hy
          have hkI : (k : Int) < b.length := by omega
          rcases meets_cases x y with ⟨e0, hm⟩ | ⟨e0, e1, hm⟩ | ⟨e0, e1, e2, hm⟩ | ⟨e0, e1, e2, e3, hm⟩ | ⟨e0, e1, e2, e3, hm⟩
          all_goals have hmH : Hid (meets x y = _) := hm
          all_goals clear hm
          · go_wp2
            refine wp_region_quiet_lit (by kernel_rfl) (by kernel_rfl) ?_
            repeat (go_big_quiet_step (fail))
            refine wpQuiet_nil ?_
            intro _ hw'
            obtain ⟨nq, hw''⟩ := hw'
            subst hw''
            go_wp2
            go_roundw
            case rel => exact ⟨k + 1, n2 + nq, by omega, by go_num, rfl, none_one hy hno2.out hmH.out⟩
            case measure => simp [intOf]; omega
          · go_wp2
            refine wp_region_quiet_lit (by kernel_rfl) (by kernel_rfl) ?_
            repeat (go_big_quiet_step (fail))
            refine wpQuiet_nil ?_
            intro _ hw'
            obtain ⟨nq, hw''⟩ := hw'
            subst hw''
            go_wp2
            go_roundw
            case rel => exact ⟨k + 1, n2 + nq, by omega, by go_num, rfl, none_one hy hno2.out hmH.out⟩
            case measure => simp [intOf]; omega
          · go_wp2
            refine wp_region_quiet_lit (by kernel_rfl) (by kernel_rfl) ?_
            repeat (go_big_quiet_step (fail))
            refine wpQuiet_nil ?_
            intro _ hw'
            obtain ⟨nq, hw''⟩ := hw'
            subst hw''
            go_wp2
            go_ret
            exact ⟨ret_b (by rw [hR.out, clash_true hxm hym hmH.out]), n2 + nq, by rw [World.drewN_drewN]⟩
          · go_wp2
            refine wp_region_quiet_lit (by kernel_rfl) (by kernel_rfl) ?_
            repeat (go_big_quiet_step (fail))
            refine wpQuiet_nil ?_
            intro _ hw'
            obtain ⟨nq, hw''⟩ := hw'
            subst hw''
            go_wp2
            go_ret
            exact ⟨ret_b (by rw [hR.out, clash_true hxm hym hmH.out]), n2 + nq, by rw [World.drewN_drewN]⟩
          · go_wp2
            refine wp_region_quiet_lit (by kernel_rfl) (by kernel_rfl) ?_
            repeat (go_big_quiet_step (fail))
            refine wpQuiet_nil ?_
            intro _ hw'
            obtain ⟨nq, hw''⟩ := hw'
            subst hw''
            go_wp2
            go_roundw
            case rel => exact ⟨k + 1, n2 + nq, by omega, by go_num, rfl, none_one hy hno2.out hmH.out⟩
            case measure => simp [intOf]; omega
        · have hk2 : k = b.length := by omega
          subst hk2
          rw [List.take_length] at hno2
          go_wp2
          go_roundw
          case rel => exact ⟨j + 1, n2, by omega, by go_num, rfl, none_more hx hno.out hno2.out⟩
          case measure => simp [intOf]; omega
    · have hj2 : j = a.length := by omega
      subst hj2
      rw [List.take_length] at hno
      go_wp2
      go_ret
      exact ⟨by rw [hR.out, clash_false hno.out]; rfl, n, rfl⟩
end Go.Proofs.Ytbajfgllgfmnfaa.pg
