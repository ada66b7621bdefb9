/- Clash of package depend, of lists of which one is short; the document's own Clash. -/
import Derived.Test.YtbajfgllgfmnfaaDp0
import Derived.Test.YtbajfgllgfmnfaaCls
import Derived.Lib.MinMax
namespace Go.Proofs.Ytbajfgllgfmnfaa.pg
open Go.ChangeShapes Go.WideShapes Go.ChangeAt Go.RowKit
set_option linter.unusedVariables false
set_option linter.unusedSimpArgs false
set_option maxRecDepth 100000
attribute [local go_sem ↓] Go.wp_at_zero Go.wp_at_succ
theorem keepAA {W w' : World} {A B : Nat} {x y : Acc} (h1 : BoxA W A x) (h2 : BoxA W B y) (hb : Below W.heap.size W w') : w'.cell? ⟨A, 0, none⟩ = some (.int .i64 x.kind) ∧ w'.cell? ⟨A, 1, none⟩ = some (.int .i64 x.num) ∧ w'.cell? ⟨A, 2, none⟩ = some (.bool x.wr) ∧ w'.cell? ⟨B, 0, none⟩ = some (.int .i64 y.kind) ∧ w'.cell? ⟨B, 1, none⟩ = some (.int .i64 y.num) ∧ w'.cell? ⟨B, 2, none⟩ = some (.bool y.wr) ∧ Below W.heap.size W w' :=
  have p := h1.later hb
  have q := h2.later hb
  ⟨p.1, p.2.1, p.2.2, q.1, q.2.1, q.2.2, hb⟩
theorem keep6 {A0 A1 A2 A3 A4 A5 Q : Prop} (h : A0 ∧ A1 ∧ A2 ∧ A3 ∧ A4 ∧ A5 ∧ Q) : Q := h.2.2.2.2.2.2
theorem eqA_obj (x y : Acc) : eqA x.obj y.obj = (x.kind == y.kind && x.num == y.num) := by simp [eqA]
theorem none_more {a b : List Acc} {j : Nat} {x : Acc} (hx : a[j]? = some x) (h : ∀ x ∈ a.take j, ∀ y ∈ b, meets x y = false) (h2 : ∀ y ∈ b, meets x y = false) : ∀ x ∈ a.take (j + 1), ∀ y ∈ b, meets x y = false := by
  intro z hz
  rw [take_one a j x hx, List.mem_append, List.mem_singleton] at hz
  rcases hz with hz | rfl
  · exact h z hz
  · exact h2
theorem none_one {b : List Acc} {k : Nat} {x y : Acc} (hy : b[k]? = some y) (h : ∀ y ∈ b.take k, meets x y = false) (h2 : meets x y = false) : ∀ y ∈ b.take (k + 1), meets x y = false := by
  intro z hz
  rw [take_one b k y hy, List.mem_append, List.mem_singleton] at hz
  rcases hz with hz | rfl
  · exact h z hz
  · exact h2
set_option maxHeartbeats 2000000 in
theorem clash_short (a b : List Acc) (aa ba : Option Addr) (ac bc : Nat) (w : World) (ha : Rows w 3 aa ac (a.map Acc.cells)) (hb : Rows w 3 ba bc (b.map Acc.cells)) (hs : a.length ≤ 24 ∨ b.length ≤ 24) (R : Bool) (hR : Hid (R = clash a b)) :
    Calls Try.prog 76 #[.slice aa a.length ac, .slice ba b.length bc] w fun e w' => e = .returned (.bool R) ∧ Below w.heap.size w w' := by
  have la := rows_len ha
  have lb := rows_len hb
  have haH : Hid (Rows w 3 aa ac (a.map Acc.cells)) := ha
  have hbH : Hid (Rows w 3 ba bc (b.map Acc.cells)) := hb
  clear ha hb
  have hmin : ¬ (24 : Int) < min (a.length : Int) (b.length : Int) := by rw [Int.lt_min]; omega
  clear hs
  go_enter Try.func76, Try.ntmps76
  go_wp2
  go_step3
  go_wp2
  go_step3
  go_wp2
  go_loopw [5, 21] (fun s u wr => ∃ j : Nat, j ≤ a.length ∧ s = .bool false ∧ u = .int .i64 j ∧ Below w.heap.size w wr ∧ Hid (∀ x ∈ a.take j, ∀ y ∈ b, meets x y = false)) (fun _ u _ => a.length - (intOf u).toNat)
  case atStart => exact ⟨0, Nat.zero_le _, rfl, rfl, Below.refl _ _, fun s hs => by simp at hs⟩
  case round =>
    obtain ⟨j, hj, rfl, rfl, hb2, hno⟩ := hrel
    by_cases hlt : j < a.length
    · obtain ⟨x, hx, hxm⟩ := get_lt a j hlt
      obtain ⟨b0, o0, hix, hbl, k0, k1, k2⟩ := acc_ix (haH.out.later hb2) j x hx
      have hjI : (j : Int) < a.length := by omega
      go_wp2
      generalize hW0 : wr.alloc (objA x) = W0 at *
      have hBW : Below w.heap.size w W0 := by rw [← hW0]; exact bthen hb2 (boxed _ _)
      have bxH : Hid (BoxA W0 wr.heap.size x) := by rw [← hW0]; exact boxA_new wr x
      have hB0 : Hid (Below wr.heap.size wr W0) := by rw [← hW0]; exact boxed _ _
      clear hW0 k0 k1 k2 hix hbl
      clear hB0
      generalize wr.heap.size = A0 at *
      go_loopw [5, 27] (fun s u wq => ∃ k : Nat, k ≤ b.length ∧ s = .bool false ∧ u = .int .i64 k ∧ Below W0.heap.size W0 wq ∧ Hid (∀ y ∈ b.take k, meets x y = false)) (fun _ u _ => b.length - (intOf u).toNat)
      case atStart => exact ⟨0, Nat.zero_le _, rfl, rfl, Below.refl _ _, fun s hs => by simp at hs⟩
      case round =>
        obtain ⟨k, hk, rfl, rfl, hb3, hno2⟩ := hrel
        by_cases hlt2 : k < b.length
        · obtain ⟨y, hy, hym⟩ := get_lt b k hlt2
          obtain ⟨b1, o1, hix1, hbl1, k0, k1, k2⟩ := acc_ix (hbH.out.later (bthen hBW hb3)) k y hy
          have hkI : (k : Int) < b.length := by omega
          have b3H : Hid (Below W0.heap.size W0 wr) := hb3
          clear hb3
          have hfalse : x.wr = false → y.wr = false → Hid (meets x y = false) := fun h1 h2 => by show _ = _; simp [meets, h1, h2]
          have hor : (x.wr || y.wr) = true → Hid (meets x y = (x.kind == y.kind && x.num == y.num)) := fun h => by show _ = _; unfold meets; rw [h, Bool.and_true]
          have heq : ∀ wx, (binOp .eql 63 (.agg #[.int .i64 x.kind, .int .i64 x.num, .bool false]) (.agg #[.int .i64 y.kind, .int .i64 y.num, .bool false])).run Try.prog wx = .ok (.bool (x.kind == y.kind && x.num == y.num)) wx := fun wx => by rw [← eqA_obj]; exact run_eqA x.obj y.obj wx
          have cO : ∀ (k n : Int) (r : Bool) wx, Calls Try.prog 89 #[.agg #[.int .i64 k, .int .i64 n, .bool r]] wx _ := fun k n r wx => object_any ⟨k, n, r⟩ wx
          by_cases hw : (x.wr || y.wr) = true
          · have hxy : x.wr = true ∨ x.wr = false ∧ y.wr = true := by revert hw; cases x.wr <;> cases y.wr <;> simp
            clear hfalse
            by_cases hq : (x.kind == y.kind && x.num == y.num) = true
            · have hm : Hid (R = true) := hR.out.trans (clash_true hxm hym ((hor hw).out.trans hq))
              clear hor hw
              rw [hq] at heq
              rcases hxy with hx1 | ⟨hx1, hy1⟩
              · have hx1H : Hid (x.wr = _) := hx1
                clear hx1
                go_wp2_with fail
                generalize hWW : wr.alloc (objA y) = W at *
                have hWb : Hid (Below W0.heap.size W0 W) := by rw [← hWW]; exact bthen b3H.out (boxed _ _)
                have bA : BoxA W A0 x := by rw [← hWW]; exact (bxH.out.later b3H.out).later (boxed _ _)
                have bB : BoxA W wr.heap.size y := by rw [← hWW]; exact boxA_new wr y
                clear hWW k0 k1 k2
                generalize wr.heap.size = B0 at *
                have d0 := bey_cell bA.1
                have d1 := bey_cell bA.2.1
                have d2 := bey_cell bA.2.2
                have d3 := bey_cell bB.1
                have d4 := bey_cell bB.2.1
                have d5 := bey_cell bB.2.2
                rw [hx1H.out] at d2
                clear bA bB
                have hne := bey_some W
                refine wp_region_cls (Bey W) (by kernel_rfl) (by kernel_rfl) (bey_drew W) ?_
                repeat (go_big_quiet_step ((go_at_call 89; exact calls_bey (cO _ _ _ _))))
                refine wpQuiet_nil ?_
                intro _ hw'
                obtain ⟨sq, hw''⟩ := hw'
                subst hw''
                have hBq : Hid (Below W0.heap.size W0 sq.w) := bthen hWb.out sq.h
                go_wp2
                rw [Exit.noGoto_ret]
                go_ret
                exact ⟨by rw [hm.out]; rfl, bthen hBW hBq.out⟩
              · have hx1H : Hid (x.wr = _) := hx1
                have hy1H : Hid (y.wr = _) := hy1
                clear hx1 hy1
                go_wp2_with fail
                generalize hWW : wr.alloc (objA y) = W at *
                have hWb : Hid (Below W0.heap.size W0 W) := by rw [← hWW]; exact bthen b3H.out (boxed _ _)
                have bA : BoxA W A0 x := by rw [← hWW]; exact (bxH.out.later b3H.out).later (boxed _ _)
                have bB : BoxA W wr.heap.size y := by rw [← hWW]; exact boxA_new wr y
                clear hWW k0 k1 k2
                generalize wr.heap.size = B0 at *
                have d0 := bey_cell bA.1
                have d1 := bey_cell bA.2.1
                have d2 := bey_cell bA.2.2
                have d3 := bey_cell bB.1
                have d4 := bey_cell bB.2.1
                have d5 := bey_cell bB.2.2
                rw [hx1H.out] at d2
                rw [hy1H.out] at d5
                clear bA bB
                have hne := bey_some W
                refine wp_region_cls (Bey W) (by kernel_rfl) (by kernel_rfl) (bey_drew W) ?_
                repeat (go_big_quiet_step ((go_at_call 89; exact calls_bey (cO _ _ _ _))))
                refine wpQuiet_nil ?_
                intro _ hw'
                obtain ⟨sq, hw''⟩ := hw'
                subst hw''
                have hBq : Hid (Below W0.heap.size W0 sq.w) := bthen hWb.out sq.h
                go_wp2
                rw [Exit.noGoto_ret]
                go_ret
                exact ⟨by rw [hm.out]; rfl, bthen hBW hBq.out⟩
            · have hm : Hid (meets x y = false) := (hor hw).out.trans (by simpa using hq)
              rw [Bool.eq_false_iff.mpr hq] at heq
              clear hor hw
              rcases hxy with hx1 | ⟨hx1, hy1⟩
              · have hx1H : Hid (x.wr = _) := hx1
                clear hx1
                go_wp2_with fail
                generalize hWW : wr.alloc (objA y) = W at *
                have hWb : Hid (Below W0.heap.size W0 W) := by rw [← hWW]; exact bthen b3H.out (boxed _ _)
                have bA : BoxA W A0 x := by rw [← hWW]; exact (bxH.out.later b3H.out).later (boxed _ _)
                have bB : BoxA W wr.heap.size y := by rw [← hWW]; exact boxA_new wr y
                clear hWW k0 k1 k2
                generalize wr.heap.size = B0 at *
                have d0 := bey_cell bA.1
                have d1 := bey_cell bA.2.1
                have d2 := bey_cell bA.2.2
                have d3 := bey_cell bB.1
                have d4 := bey_cell bB.2.1
                have d5 := bey_cell bB.2.2
                rw [hx1H.out] at d2
                clear bA bB
                have hne := bey_some W
                refine wp_region_cls (Bey W) (by kernel_rfl) (by kernel_rfl) (bey_drew W) ?_
                repeat (go_big_quiet_step ((go_at_call 89; exact calls_bey (cO _ _ _ _))))
                refine wpQuiet_nil ?_
                intro _ hw'
                obtain ⟨sq, hw''⟩ := hw'
                subst hw''
                have hBq : Hid (Below W0.heap.size W0 sq.w) := bthen hWb.out sq.h
                go_wp2
                go_roundw
                case rel => exact ⟨k + 1, by omega, rfl, by go_num, hBq.out, none_one hy hno2.out hm.out⟩
                case measure => simp [intOf]; omega
              · have hx1H : Hid (x.wr = _) := hx1
                have hy1H : Hid (y.wr = _) := hy1
                clear hx1 hy1
                go_wp2_with fail
                generalize hWW : wr.alloc (objA y) = W at *
                have hWb : Hid (Below W0.heap.size W0 W) := by rw [← hWW]; exact bthen b3H.out (boxed _ _)
                have bA : BoxA W A0 x := by rw [← hWW]; exact (bxH.out.later b3H.out).later (boxed _ _)
                have bB : BoxA W wr.heap.size y := by rw [← hWW]; exact boxA_new wr y
                clear hWW k0 k1 k2
                generalize wr.heap.size = B0 at *
                have d0 := bey_cell bA.1
                have d1 := bey_cell bA.2.1
                have d2 := bey_cell bA.2.2
                have d3 := bey_cell bB.1
                have d4 := bey_cell bB.2.1
                have d5 := bey_cell bB.2.2
                rw [hx1H.out] at d2
                rw [hy1H.out] at d5
                clear bA bB
                have hne := bey_some W
                refine wp_region_cls (Bey W) (by kernel_rfl) (by kernel_rfl) (bey_drew W) ?_
                repeat (go_big_quiet_step ((go_at_call 89; exact calls_bey (cO _ _ _ _))))
                refine wpQuiet_nil ?_
                intro _ hw'
                obtain ⟨sq, hw''⟩ := hw'
                subst hw''
                have hBq : Hid (Below W0.heap.size W0 sq.w) := bthen hWb.out sq.h
                go_wp2
                go_roundw
                case rel => exact ⟨k + 1, by omega, rfl, by go_num, hBq.out, none_one hy hno2.out hm.out⟩
                case measure => simp [intOf]; omega
          · have hxy : x.wr = false ∧ y.wr = false := by revert hw; cases x.wr <;> cases y.wr <;> simp
            obtain ⟨hx1, hy1⟩ := hxy
            have hm := hfalse hx1 hy1
            clear hfalse hor hw
            have hx1H : Hid (x.wr = _) := hx1
            have hy1H : Hid (y.wr = _) := hy1
            clear hx1 hy1
            go_wp2_with fail
            generalize hWW : wr.alloc (objA y) = W at *
            have hWb : Hid (Below W0.heap.size W0 W) := by rw [← hWW]; exact bthen b3H.out (boxed _ _)
            have bA : BoxA W A0 x := by rw [← hWW]; exact (bxH.out.later b3H.out).later (boxed _ _)
            have bB : BoxA W wr.heap.size y := by rw [← hWW]; exact boxA_new wr y
            clear hWW k0 k1 k2
            generalize wr.heap.size = B0 at *
            have d0 := bey_cell bA.1
            have d1 := bey_cell bA.2.1
            have d2 := bey_cell bA.2.2
            have d3 := bey_cell bB.1
            have d4 := bey_cell bB.2.1
            have d5 := bey_cell bB.2.2
            rw [hx1H.out] at d2
            rw [hy1H.out] at d5
            clear bA bB
            have hne := bey_some W
            refine wp_region_cls (Bey W) (by kernel_rfl) (by kernel_rfl) (bey_drew W) ?_
            repeat (go_big_quiet_step ((go_at_call 89; exact calls_bey (cO _ _ _ _))))
            refine wpQuiet_nil ?_
            intro _ hw'
            obtain ⟨sq, hw''⟩ := hw'
            subst hw''
            have hBq : Hid (Below W0.heap.size W0 sq.w) := bthen hWb.out sq.h
            go_wp2
            go_roundw
            case rel => exact ⟨k + 1, by omega, rfl, by go_num, hBq.out, none_one hy hno2.out hm.out⟩
            case measure => simp [intOf]; omega
        · have hk2 : k = b.length := by omega
          subst hk2
          rw [List.take_length] at hno2
          go_wp2
          go_roundw
          case rel => exact ⟨j + 1, by omega, rfl, by go_num, bthen hBW hb3, none_more hx hno.out hno2.out⟩
          case measure => simp [intOf]; omega
    · have hj2 : j = a.length := by omega
      subst hj2
      rw [List.take_length] at hno
      go_wp2
      rw [Exit.noGoto_ret]
      go_ret
      exact ⟨by rw [hR.out, clash_false hno.out]; rfl, hb2⟩
end Go.Proofs.Ytbajfgllgfmnfaa.pg
