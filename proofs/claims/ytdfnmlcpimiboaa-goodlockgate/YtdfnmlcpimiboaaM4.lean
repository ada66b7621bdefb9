/- Clash of package depend, of lists of which one is short; the document's own Clash. -/
import Derived.Test.YtdfnmlcpimiboaaM3
import Derived.Lib.MinMax
namespace Go.Proofs.Ytdfnmlcpimiboaa.pg
open Go.ChangeShapes Go.WideShapes Go.ChangeAt Go.RowKit
set_option linter.unusedVariables false
set_option linter.unusedSimpArgs false
set_option maxRecDepth 100000
attribute [local go_sem ↓] Go.wp_at_zero Go.wp_at_succ
theorem keepAA {W w' : World} {A B : Nat} {x y : Acc} (h1 : BoxA W A x) (h2 : BoxA W B y) (hb : Below W.heap.size W w') : w'.cell? ⟨A, 0, none⟩ = some (.int .i64 x.kind) ∧ w'.cell? ⟨A, 1, none⟩ = some (.int .i64 x.num) ∧ w'.cell? ⟨A, 2, none⟩ = some (.bool x.wr) ∧ w'.cell? ⟨B, 0, none⟩ = some (.int .i64 y.kind) ∧ w'.cell? ⟨B, 1, none⟩ = some (.int .i64 y.num) ∧ w'.cell? ⟨B, 2, none⟩ = some (.bool y.wr) ∧ Below W.heap.size W w' :=
  have p := h1.later hb
  have q := h2.later hb
  ⟨p.1, p.2.1, p.2.2, q.1, q.2.1, q.2.2, hb⟩
theorem keep6 {A0 A1 A2 A3 A4 A5 Q : Prop} (h : A0 ∧ A1 ∧ A2 ∧ A3 ∧ A4 ∧ A5 ∧ Q) : Q := h.2.2.2.2.2.2
theorem eqA_obj (x y : Acc) : eqA x.obj y.obj = (x.kind == y.kind && x.num == y.num) := by simp [eqA]
theorem none_more {a b : List Acc} {j : Nat} {x : Acc} (hx : a[j]? = some x) (h : ∀ x ∈ a.take j, ∀ y ∈ b, meets x y = false) (h2 : ∀ y ∈ b, meets x y = false) : ∀ x ∈ a.take (j + 1), ∀ y ∈ b, meets x y = false := by
  intro z hz
  rw [take_one a j x hx, List.mem_append, List.mem_singleton] at hz
  rcases hz with hz | rfl
  · exact h z hz
  · exact h2
theorem none_one {b : List Acc} {k : Nat} {x y : Acc} (hy : b[k]? = some y) (h : ∀ y ∈ b.take k, meets x y = false) (h2 : meets x y = false) : ∀ y ∈ b.take (k + 1), meets x y = false := by
  intro z hz
  rw [take_one b k y hy, List.mem_append, List.mem_singleton] at hz
  rcases hz with hz | rfl
  · exact h z hz
  · exact h2
set_option maxHeartbeats 2000000 in
theorem clash_short (a b : List Acc) (aa ba : Option Addr) (ac bc : Nat) (w : World) (ha : Rows w 3 aa ac (a.map Acc.cells)) (hb : Rows w 3 ba bc (b.map Acc.cells)) (hs : a.length ≤ 24 ∨ b.length ≤ 24) (R : Bool) (hR : Hid (R = clash a b)) :
    Calls Try.prog 42 #[.slice aa a.length ac, .slice ba b.length bc] w fun e w' => e = .returned (.bool R) ∧ Below w.heap.size w w' := by
  have la := rows_len ha
  have lb := rows_len hb
  have haH : Hid (Rows w 3 aa ac (a.map Acc.cells)) := ha
  have hbH : Hid (Rows w 3 ba bc (b.map Acc.cells)) := hb
  clear ha hb
  have hmin : ¬ (24 : Int) < min (a.length : Int) (b.length : Int) := by rw [Int.lt_min]; omega
  clear hs
  go_enter Try.func42, Try.ntmps42
  go_wp2
  go_step3
  go_wp2
  go_step3
  go_wp2
  go_loopw [5, 21] (fun s u wr => ∃ j : Nat, j ≤ a.length ∧ s = .bool false ∧ u = .int .i64 j ∧ Below w.heap.size w wr ∧ Hid (∀ x ∈ a.take j, ∀ y ∈ b, meets x y = false)) (fun _ u _ => a.length - (intOf u).toNat)
  case atStart => exact ⟨0, Nat.zero_le _, rfl, rfl, Below.refl _ _, fun s hs => by simp at hs⟩
  case round =>
    obtain ⟨j, hj, rfl, rfl, hb2, hno⟩ := hrel
    by_cases hlt : j < a.length
    · obtain ⟨x, hx, hxm⟩ := get_lt a j hlt
      obtain ⟨b0, o0, hix, hbl, k0, k1, k2⟩ := acc_ix (haH.out.later hb2) j x hx
      have hjI : (j : Int) < a.length := by omega
      go_wp2
      generalize hW0 : wr.alloc (objA x) = W0 at *
      have hBW : Below w.heap.size w W0 := by rw [← hW0]; exact bthen hb2 (boxed _ _)
      have bxH : Hid (BoxA W0 wr.heap.size x) := by rw [← hW0]; exact boxA_new wr x
      have hB0 : Hid (Below wr.heap.size wr W0) := by rw [← hW0]; exact boxed _ _
      clear hW0 k0 k1 k2 hix hbl
      clear hB0
      generalize wr.heap.size = A0 at *
      go_loopw [5, 27] (fun s u wq => ∃ k : Nat, k ≤ b.length ∧ s = .bool false ∧ u = .int .i64 k ∧ Below W0.heap.size W0 wq ∧ Hid (∀ y ∈ b.take k, meets x y = false)) (fun _ u _ => b.length - (intOf u).toNat)
      case atStart => exact ⟨0, Nat.zero_le _, rfl, rfl, Below.refl _ _, fun s hs => by simp at hs⟩
      case round =>
        obtain ⟨k, hk, rfl, rfl, hb3, hno2⟩ := hrel
        by_cases hlt2 : k < b.length
        · obtain ⟨y, hy, hym⟩ := get_lt b k hlt2
          obtain ⟨b1, o1, hix1, hbl1, k0, k1, k2⟩ := acc_ix (hbH.out.later (bthen hBW hb3)) k y hy
          have hkI : (k : Int) < b.length := by omega
          have b3H : Hid (Below W0.heap.size W0 wr) := hb3
          clear hb3
          have hfalse : x.wr = false → y.wr = false → Hid (meets x y = false) := fun h1 h2 => by show _ = _; simp [meets, h1, h2]
          have hor : (x.wr || y.wr) = true → Hid (meets x y = (x.kind == y.kind && x.num == y.num)) := fun h => by show _ = _; unfold meets; rw [h, Bool.and_true]
          have heq : ∀ wx, (binOp .eql 52 (.agg #[.int .i64 x.kind, .int .i64 x.num, .bool false]) (.agg #[.int .i64 y.kind, .int .i64 y.num, .bool false])).run Try.prog wx = .ok (.bool (x.kind == y.kind && x.num == y.num)) wx := fun wx => by rw [← eqA_obj]; exact run_eqA x.obj y.obj wx
          have cO : ∀ (k n : Int) (r : Bool) wx, Calls Try.prog 57 #[.agg #[.int .i64 k, .int .i64 n, .bool r]] wx _ := fun k n r wx => object_any ⟨k, n, r⟩ wx
          by_cases hw : (x.wr || y.wr) = true
          · have hxy : x.wr = true ∨ x.wr = false ∧ y.wr = true := by revert hw; cases x.wr <;> cases y.wr <;> simp
            clear hfalse
            by_cases hq : (x.kind == y.kind && x.num == y.num) = true
            · have hm : Hid (R = true) := hR.out.trans (clash_true hxm hym ((hor hw).out.trans hq))
              clear hor hw
              rw [hq] at heq
              rcases hxy with hx1 | ⟨hx1, hy1⟩
              · have hx1H : Hid (x.wr = _) := hx1
                clear hx1
                go_wp2_with fail
                generalize hWW : wr.alloc (objA y) = W at *
                have hWb : Hid (Below W0.heap.size W0 W) := by rw [← hWW]; exact bthen b3H.out (boxed _ _)
                have bA : BoxA W A0 x := by rw [← hWW]; exact (bxH.out.later b3H.out).later (boxed _ _)
                have bB : BoxA W wr.heap.size y := by rw [← hWW]; exact boxA_new wr y
                clear hWW k0 k1 k2
                generalize wr.heap.size = B0 at *
                have d0 := bey_cell bA.1
                have d1 := bey_cell bA.2.1
                have d2 := bey_cell bA.2.2
                have d3 := bey_cell bB.1
                have d4 := bey_cell bB.2.1
                have d5 := bey_cell bB.2.2
                rw [hx1H.out] at d2
                clear bA bB
                have hne := bey_some W
                refine wp_region_cls (Bey W) (by kernel_rfl) (by kernel_rfl) (bey_drew W) ?_
                repeat (go_big_quiet_step ((go_at_call 57; exact calls_bey (cO _ _ _ _))))
                refine wpQuiet_nil ?_
                intro _ hw'
                obtain ⟨sq, hw''⟩ := hw'
                subst hw''
                have hBq : Hid (Below W0.heap.size W0 sq.w) := bthen hWb.out sq.h
                go_wp2
                rw [Exit.noGoto_ret]
                go_ret
                exact ⟨by rw [hm.out]; rfl, bthen hBW hBq.out⟩
              · have hx1H : Hid (x.wr = _) := hx1
                have hy1H : Hid (y.wr = _) := hy1
                clear hx1 hy1
                go_wp2_with fail
                generalize hWW : wr.alloc (objA y) = W at *
                have hWb : Hid (Below W0.heap.size W0 W) := by rw [← hWW]; exact bthen b3H.out (boxed _ _)
                have bA : BoxA W A0 x := by rw [← hWW]; exact (bxH.out.later b3H.out).later (boxed _ _)
                have bB : BoxA W wr.heap.size y := by rw [← hWW]; exact boxA_new wr y
                clear hWW k0 k1 k2
                generalize wr.heap.size = B0 at *
                have d0 := bey_cell bA.1
                have d1 := bey_cell bA.2.1
                have d2 := bey_cell bA.2.2
                have d3 := bey_cell bB.1
                have d4 := bey_cell bB.2.1
                have d5 := bey_cell bB.2.2
                rw [hx1H.out] at d2
                rw [hy1H.out] at d5
                clear bA bB
                have hne := bey_some W
                refine wp_region_cls (Bey W) (by kernel_rfl) (by kernel_rfl) (bey_drew W) ?_
                repeat (go_big_quiet_step ((go_at_call 57; exact calls_bey (cO _ _ _ _))))
                refine wpQuiet_nil ?_
                intro _ hw'
                obtain ⟨sq, hw''⟩ := hw'
                subst hw''
                have hBq : Hid (Below W0.heap.size W0 sq.w) := bthen hWb.out sq.h
                go_wp2
                rw [Exit.noGoto_ret]
                go_ret
                exact ⟨by rw [hm.out]; rfl, bthen hBW hBq.out⟩
            · have hm : Hid (meets x y = false) := (hor hw).out.trans (by simpa using hq)
              rw [Bool.eq_false_iff.mpr hq] at heq
              clear hor hw
              rcases hxy with hx1 | ⟨hx1, hy1⟩
              · have hx1H : Hid (x.wr = _) := hx1
                clear hx1
                go_wp2_with fail
                generalize hWW : wr.alloc (objA y) = W at *
                have hWb : Hid (Below W0.heap.size W0 W) := by rw [← hWW]; exact bthen b3H.out (boxed _ _)
                have bA : BoxA W A0 x := by rw [← hWW]; exact (bxH.out.later b3H.out).later (boxed _ _)
                have bB : BoxA W wr.heap.size y := by rw [← hWW]; exact boxA_new wr y
                clear hWW k0 k1 k2
                generalize wr.heap.size = B0 at *
                have d0 := bey_cell bA.1
                have d1 := bey_cell bA.2.1
                have d2 := bey_cell bA.2.2
                have d3 := bey_cell bB.1
                have d4 := bey_cell bB.2.1
                have d5 := bey_cell bB.2.2
                rw [hx1H.out] at d2
                clear bA bB
                have hne := bey_some W
                refine wp_region_cls (Bey W) (by kernel_rfl) (by kernel_rfl) (bey_drew W) ?_
                repeat (go_big_quiet_step ((go_at_call 57; exact calls_bey (cO _ _ _ _))))
                refine wpQuiet_nil ?_
                intro _ hw'
                obtain ⟨sq, hw''⟩ := hw'
                subst hw''
                have hBq : Hid (Below W0.heap.size W0 sq.w) := bthen hWb.out sq.h
                go_wp2
                go_roundw
                case rel => exact ⟨k + 1, by omega, rfl, by go_num, hBq.out, none_one hy hno2.out hm.out⟩
                case measure => simp [intOf]; omega
              · have hx1H : Hid (x.wr = _) := hx1
                have hy1H : Hid (y.wr = _) := hy1
                clear hx1 hy1
                go_wp2_with fail
                generalize hWW : wr.alloc (objA y) = W at *
                have hWb : Hid (Below W0.heap.size W0 W) := by rw [← hWW]; exact bthen b3H.out (boxed _ _)
                have bA : BoxA W A0 x := by rw [← hWW]; exact (bxH.out.later b3H.out).later (boxed _ _)
                have bB : BoxA W wr.heap.size y := by rw [← hWW]; exact boxA_new wr y
                clear hWW k0 k1 k2
                generalize wr.heap.size = B0 at *
                have d0 := bey_cell bA.1
                have d1 := bey_cell bA.2.1
                have d2 := bey_cell bA.2.2
                have d3 := bey_cell bB.1
                have d4 := bey_cell bB.2.1
                have d5 := bey_cell bB.2.2
                rw [hx1H.out] at d2
                rw [hy1H.out] at d5
                clear bA bB
                have hne := bey_some W
                refine wp_region_cls (Bey W) (by kernel_rfl) (by kernel_rfl) (bey_drew W) ?_
                repeat (go_big_quiet_step ((go_at_call 57; exact calls_bey (cO _ _ _ _))))
                refine wpQuiet_nil ?_
                intro _ hw'
                obtain ⟨sq, hw''⟩ := hw'
                subst hw''
                have hBq : Hid (Below W0.heap.size W0 sq.w) := bthen hWb.out sq.h
                go_wp2
                go_roundw
                case rel => exact ⟨k + 1, by omega, rfl, by go_num, hBq.out, none_one hy hno2.out hm.out⟩
                case measure => simp [intOf]; omega
          · have hxy : x.wr = false ∧ y.wr = false := by revert hw; cases x.wr <;> cases y.wr <;> simp
            obtain ⟨hx1, hy1⟩ := hxy
            have hm := hfalse hx1 hy1
            clear hfalse hor hw
            have hx1H : Hid (x.wr = _) := hx1
            have hy1H : Hid (y.wr = _) := hy1
            clear hx1 hy1
            go_wp2_with fail
            generalize hWW : wr.alloc (objA y) = W at *
            have hWb : Hid (Below W0.heap.size W0 W) := by rw [← hWW]; exact bthen b3H.out (boxed _ _)
            have bA : BoxA W A0 x := by rw [← hWW]; exact (bxH.out.later b3H.out).later (boxed _ _)
            have bB : BoxA W wr.heap.size y := by rw [← hWW]; exact boxA_new wr y
            clear hWW k0 k1 k2
            generalize wr.heap.size = B0 at *
            have d0 := bey_cell bA.1
            have d1 := bey_cell bA.2.1
            have d2 := bey_cell bA.2.2
            have d3 := bey_cell bB.1
            have d4 := bey_cell bB.2.1
            have d5 := bey_cell bB.2.2
            rw [hx1H.out] at d2
            rw [hy1H.out] at d5
            clear bA bB
            have hne := bey_some W
            refine wp_region_cls (Bey W) (by kernel_rfl) (by kernel_rfl) (bey_drew W) ?_
            repeat (go_big_quiet_step ((go_at_call 57; exact calls_bey (cO _ _ _ _))))
            refine wpQuiet_nil ?_
            intro _ hw'
            obtain ⟨sq, hw''⟩ := hw'
            subst hw''
            have hBq : Hid (Below W0.heap.size W0 sq.w) := bthen hWb.out sq.h
            go_wp2
            go_roundw
            case rel => exact ⟨k + 1, by omega, rfl, by go_num, hBq.out, none_one hy hno2.out hm.out⟩
            case measure => simp [intOf]; omega
        · have hk2 : k = b.length := by omega
          subst hk2
          rw [List.take_length] at hno2
          go_wp2
          go_roundw
          case rel => exact ⟨j + 1, by omega, rfl, by go_num, bthen hBW hb3, none_more hx hno.out hno2.out⟩
          case measure => simp [intOf]; omega
    · have hj2 : j = a.length := by omega
      subst hj2
      rw [List.take_length] at hno
      go_wp2
      rw [Exit.noGoto_ret]
      go_ret
      exact ⟨by rw [hR.out, clash_false hno.out]; rfl, hb2⟩
end Go.Proofs.Ytdfnmlcpimiboaa.pg
/- The document's own Clash. -/
namespace Go.Proofs.Ytdfnmlcpimiboaa.pg
open Go.ChangeShapes Go.WideShapes Go.ChangeAt Go.RowKit
set_option linter.unusedVariables false
set_option linter.unusedSimpArgs false
set_option maxRecDepth 100000
attribute [local go_sem ↓] Go.wp_at_zero Go.wp_at_succ
theorem meets_cases (x y : Acc) : ((x.kind == y.kind) = false ∧ meets x y = false) ∨ ((x.kind == y.kind) = true ∧ (x.num == y.num) = false ∧ meets x y = false) ∨ ((x.kind == y.kind) = true ∧ (x.num == y.num) = true ∧ x.wr = true ∧ meets x y = true) ∨ ((x.kind == y.kind) = true ∧ (x.num == y.num) = true ∧ x.wr = false ∧ y.wr = true ∧ meets x y = true) ∨ ((x.kind == y.kind) = true ∧ (x.num == y.num) = true ∧ x.wr = false ∧ y.wr = false ∧ meets x y = false) := by
  cases h0 : (x.kind == y.kind) <;> cases h1 : (x.num == y.num) <;> cases h2 : x.wr <;> cases h3 : y.wr <;> simp [meets, h0, h1, h2, h3]
end Go.Proofs.Ytdfnmlcpimiboaa.pg
/- Events as plain data, where they lie, and what they touch. -/
namespace Go.Proofs.Ytdfnmlcpimiboaa.pg
open Go.ChangeShapes Go.WideShapes Go.ChangeAt Go.RowKit
set_option linter.unusedVariables false
set_option linter.unusedSimpArgs false
set_option maxRecDepth 100000
/-- An event. -/
structure Ev where
  go : Int
  fn : Int
  pc : Int
  op : Int
  alt : Int
  vl : Int
  tag : Int
  t0 : Acc
  t1 : Acc
  t2 : Acc
  t3 : Acc
  t4 : Acc
  t5 : Acc
  n : Int
def Ev.cells (x : Ev) : List Value := [.int .i64 x.go, .int .i64 x.fn, .int .i64 x.pc, .int .i64 x.op, .int .i64 x.alt, .int .i64 x.vl, .int .i64 x.tag, .int .i64 x.t0.kind, .int .i64 x.t0.num, .bool x.t0.wr, .int .i64 x.t1.kind, .int .i64 x.t1.num, .bool x.t1.wr, .int .i64 x.t2.kind, .int .i64 x.t2.num, .bool x.t2.wr, .int .i64 x.t3.kind, .int .i64 x.t3.num, .bool x.t3.wr, .int .i64 x.t4.kind, .int .i64 x.t4.num, .bool x.t4.wr, .int .i64 x.t5.kind, .int .i64 x.t5.num, .bool x.t5.wr, .int .i64 x.n]
abbrev Ev.val (x : Ev) : Value := .agg #[.int .i64 x.go, .int .i64 x.fn, .int .i64 x.pc, .int .i64 x.op, .int .i64 x.alt, .int .i64 x.vl, .int .i64 x.tag, .int .i64 x.t0.kind, .int .i64 x.t0.num, .bool x.t0.wr, .int .i64 x.t1.kind, .int .i64 x.t1.num, .bool x.t1.wr, .int .i64 x.t2.kind, .int .i64 x.t2.num, .bool x.t2.wr, .int .i64 x.t3.kind, .int .i64 x.t3.num, .bool x.t3.wr, .int .i64 x.t4.kind, .int .i64 x.t4.num, .bool x.t4.wr, .int .i64 x.t5.kind, .int .i64 x.t5.num, .bool x.t5.wr, .int .i64 x.n]
abbrev objE (x : Ev) : Obj := .cells #[.int .i64 x.go, .int .i64 x.fn, .int .i64 x.pc, .int .i64 x.op, .int .i64 x.alt, .int .i64 x.vl, .int .i64 x.tag, .int .i64 x.t0.kind, .int .i64 x.t0.num, .bool x.t0.wr, .int .i64 x.t1.kind, .int .i64 x.t1.num, .bool x.t1.wr, .int .i64 x.t2.kind, .int .i64 x.t2.num, .bool x.t2.wr, .int .i64 x.t3.kind, .int .i64 x.t3.num, .bool x.t3.wr, .int .i64 x.t4.kind, .int .i64 x.t4.num, .bool x.t4.wr, .int .i64 x.t5.kind, .int .i64 x.t5.num, .bool x.t5.wr, .int .i64 x.n] 55
def Ev.list (x : Ev) : List Acc := [x.t0, x.t1, x.t2, x.t3, x.t4, x.t5]
def Ev.wf (x : Ev) : Prop := (I64 x.go ∧ I64 x.fn ∧ I64 x.pc ∧ I64 x.op ∧ I64 x.alt ∧ I64 x.vl ∧ I64 x.tag) ∧ (∀ t ∈ x.list, t.wf) ∧ I64 x.n
def BoxE (w : World) (B : Nat) (x : Ev) : Prop := w.cell? ⟨B, 0, none⟩ = some (.int .i64 x.go) ∧ w.cell? ⟨B, 1, none⟩ = some (.int .i64 x.fn) ∧ w.cell? ⟨B, 2, none⟩ = some (.int .i64 x.pc) ∧ w.cell? ⟨B, 3, none⟩ = some (.int .i64 x.op) ∧ w.cell? ⟨B, 4, none⟩ = some (.int .i64 x.alt) ∧ w.cell? ⟨B, 5, none⟩ = some (.int .i64 x.vl) ∧ w.cell? ⟨B, 6, none⟩ = some (.int .i64 x.tag) ∧ w.cell? ⟨B, 7, none⟩ = some (.int .i64 x.t0.kind) ∧ w.cell? ⟨B, 8, none⟩ = some (.int .i64 x.t0.num) ∧ w.cell? ⟨B, 9, none⟩ = some (.bool x.t0.wr) ∧ w.cell? ⟨B, 10, none⟩ = some (.int .i64 x.t1.kind) ∧ w.cell? ⟨B, 11, none⟩ = some (.int .i64 x.t1.num) ∧ w.cell? ⟨B, 12, none⟩ = some (.bool x.t1.wr) ∧ w.cell? ⟨B, 13, none⟩ = some (.int .i64 x.t2.kind) ∧ w.cell? ⟨B, 14, none⟩ = some (.int .i64 x.t2.num) ∧ w.cell? ⟨B, 15, none⟩ = some (.bool x.t2.wr) ∧ w.cell? ⟨B, 16, none⟩ = some (.int .i64 x.t3.kind) ∧ w.cell? ⟨B, 17, none⟩ = some (.int .i64 x.t3.num) ∧ w.cell? ⟨B, 18, none⟩ = some (.bool x.t3.wr) ∧ w.cell? ⟨B, 19, none⟩ = some (.int .i64 x.t4.kind) ∧ w.cell? ⟨B, 20, none⟩ = some (.int .i64 x.t4.num) ∧ w.cell? ⟨B, 21, none⟩ = some (.bool x.t4.wr) ∧ w.cell? ⟨B, 22, none⟩ = some (.int .i64 x.t5.kind) ∧ w.cell? ⟨B, 23, none⟩ = some (.int .i64 x.t5.num) ∧ w.cell? ⟨B, 24, none⟩ = some (.bool x.t5.wr) ∧ w.cell? ⟨B, 25, none⟩ = some (.int .i64 x.n)
theorem BoxE.at {w : World} {B : Nat} {x : Ev} (h : BoxE w B x) : ∀ i v, x.cells[i]? = some v → w.cell? ⟨B, i, none⟩ = some v := by
  intro i v hv
  match i with
  | 0 => simp only [Ev.cells, List.getElem?_cons_zero, List.getElem?_cons_succ, Option.some.injEq] at hv; subst hv; exact h.1
  | 1 => simp only [Ev.cells, List.getElem?_cons_zero, List.getElem?_cons_succ, Option.some.injEq] at hv; subst hv; exact h.2.1
  | 2 => simp only [Ev.cells, List.getElem?_cons_zero, List.getElem?_cons_succ, Option.some.injEq] at hv; subst hv; exact h.2.2.1
  | 3 => simp only [Ev.cells, List.getElem?_cons_zero, List.getElem?_cons_succ, Option.some.injEq] at hv; subst hv; exact h.2.2.2.1
  | 4 => simp only [Ev.cells, List.getElem?_cons_zero, List.getElem?_cons_succ, Option.some.injEq] at hv; subst hv; exact h.2.2.2.2.1
  | 5 => simp only [Ev.cells, List.getElem?_cons_zero, List.getElem?_cons_succ, Option.some.injEq] at hv; subst hv; exact h.2.2.2.2.2.1
  | 6 => simp only [Ev.cells, List.getElem?_cons_zero, List.getElem?_cons_succ, Option.some.injEq] at hv; subst hv; exact h.2.2.2.2.2.2.1
  | 7 => simp only [Ev.cells, List.getElem?_cons_zero, List.getElem?_cons_succ, Option.some.injEq] at hv; subst hv; exact h.2.2.2.2.2.2.2.1
  | 8 => simp only [Ev.cells, List.getElem?_cons_zero, List.getElem?_cons_succ, Option.some.injEq] at hv; subst hv; exact h.2.2.2.2.2.2.2.2.1
  | 9 => simp only [Ev.cells, List.getElem?_cons_zero, List.getElem?_cons_succ, Option.some.injEq] at hv; subst hv; exact h.2.2.2.2.2.2.2.2.2.1
  | 10 => simp only [Ev.cells, List.getElem?_cons_zero, List.getElem?_cons_succ, Option.some.injEq] at hv; subst hv; exact h.2.2.2.2.2.2.2.2.2.2.1
  | 11 => simp only [Ev.cells, List.getElem?_cons_zero, List.getElem?_cons_succ, Option.some.injEq] at hv; subst hv; exact h.2.2.2.2.2.2.2.2.2.2.2.1
  | 12 => simp only [Ev.cells, List.getElem?_cons_zero, List.getElem?_cons_succ, Option.some.injEq] at hv; subst hv; exact h.2.2.2.2.2.2.2.2.2.2.2.2.1
  | 13 => simp only [Ev.cells, List.getElem?_cons_zero, List.getElem?_cons_succ, Option.some.injEq] at hv; subst hv; exact h.2.2.2.2.2.2.2.2.2.2.2.2.2.1
  | 14 => simp only [Ev.cells, List.getElem?_cons_zero, List.getElem?_cons_succ, Option.some.injEq] at hv; subst hv; exact h.2.2.2.2.2.2.2.2.2.2.2.2.2.2.1
  | 15 => simp only [Ev.cells, List.getElem?_cons_zero, List.getElem?_cons_succ, Option.some.injEq] at hv; subst hv; exact h.2.2.2.2.2.2.2.2.2.2.2.2.2.2.2.1
  | 16 => simp only [Ev.cells, List.getElem?_cons_zero, List.getElem?_cons_succ, Option.some.injEq] at hv; subst hv; exact h.2.2.2.2.2.2.2.2.2.2.2.2.2.2.2.2.1
  | 17 => simp only [Ev.cells, List.getElem?_cons_zero, List.getElem?_cons_succ, Option.some.injEq] at hv; subst hv; exact h.2.2.2.2.2.2.2.2.2.2.2.2.2.2.2.2.2.1
  | 18 => simp only [Ev.cells, List.getElem?_cons_zero, List.getElem?_cons_succ, Option.some.injEq] at hv; subst hv; exact h.2.2.2.2.2.2.2.2.2.2.2.2.2.2.2.2.2.2.1
  | 19 => simp only [Ev.cells, List.getElem?_cons_zero, List.getElem?_cons_succ, Option.some.injEq] at hv; subst hv; exact h.2.2.2.2.2.2.2.2.2.2.2.2.2.2.2.2.2.2.2.1
  | 20 => simp only [Ev.cells, List.getElem?_cons_zero, List.getElem?_cons_succ, Option.some.injEq] at hv; subst hv; exact h.2.2.2.2.2.2.2.2.2.2.2.2.2.2.2.2.2.2.2.2.1
  | 21 => simp only [Ev.cells, List.getElem?_cons_zero, List.getElem?_cons_succ, Option.some.injEq] at hv; subst hv; exact h.2.2.2.2.2.2.2.2.2.2.2.2.2.2.2.2.2.2.2.2.2.1
  | 22 => simp only [Ev.cells, List.getElem?_cons_zero, List.getElem?_cons_succ, Option.some.injEq] at hv; subst hv; exact h.2.2.2.2.2.2.2.2.2.2.2.2.2.2.2.2.2.2.2.2.2.2.1
  | 23 => simp only [Ev.cells, List.getElem?_cons_zero, List.getElem?_cons_succ, Option.some.injEq] at hv; subst hv; exact h.2.2.2.2.2.2.2.2.2.2.2.2.2.2.2.2.2.2.2.2.2.2.2.1
  | 24 => simp only [Ev.cells, List.getElem?_cons_zero, List.getElem?_cons_succ, Option.some.injEq] at hv; subst hv; exact h.2.2.2.2.2.2.2.2.2.2.2.2.2.2.2.2.2.2.2.2.2.2.2.2.1
  | 25 => simp only [Ev.cells, List.getElem?_cons_zero, List.getElem?_cons_succ, Option.some.injEq] at hv; subst hv; exact h.2.2.2.2.2.2.2.2.2.2.2.2.2.2.2.2.2.2.2.2.2.2.2.2.2
  | i + 26 => simp [Ev.cells] at hv
theorem boxE_of {w : World} {B : Nat} {x : Ev} (h : ∀ i v, x.cells[i]? = some v → w.cell? ⟨B, i, none⟩ = some v) : BoxE w B x := ⟨h 0 _ rfl, h 1 _ rfl, h 2 _ rfl, h 3 _ rfl, h 4 _ rfl, h 5 _ rfl, h 6 _ rfl, h 7 _ rfl, h 8 _ rfl, h 9 _ rfl, h 10 _ rfl, h 11 _ rfl, h 12 _ rfl, h 13 _ rfl, h 14 _ rfl, h 15 _ rfl, h 16 _ rfl, h 17 _ rfl, h 18 _ rfl, h 19 _ rfl, h 20 _ rfl, h 21 _ rfl, h 22 _ rfl, h 23 _ rfl, h 24 _ rfl, h 25 _ rfl⟩
theorem BoxE.later {w w' : World} {B : Nat} {x : Ev} (h : BoxE w B x) (hb : Below w.heap.size w w') : BoxE w' B x := boxE_of fun i v hv => cell_later hb (h.at i v hv)
theorem boxE_new (w : World) (x : Ev) : BoxE (w.alloc (objE x)) w.heap.size x := boxE_of fun i v hv => (World.cell?_alloc_at _ _ _ _ rfl).trans ((by simp [Ev.cells] : _ = x.cells[i]?).trans hv)
/-- How many accesses an event has, whatever it says. -/
def tN (n : Int) : Nat := (max 0 (min n 6)).toNat
theorem tN_le (n : Int) : tN n ≤ 6 := by unfold tN; rw [Int.max_def, Int.min_def]; split <;> split <;> omega
theorem tN_int (n : Int) : ((tN n : Nat) : Int) = max 0 (min n 6) := by unfold tN; rw [Int.toNat_of_nonneg (by rw [Int.max_def]; split <;> omega)]
/-- What an event touches. -/
def Ev.of (x : Ev) : List Acc := x.list.take (tN x.n)
theorem Ev.of_len (x : Ev) : x.of.length = tN x.n := by
  have := tN_le x.n
  unfold Ev.of Ev.list
  rw [List.length_take]
  simp only [List.length_cons, List.length_nil]
  omega
theorem Ev.list_at (x : Ev) {w : World} {B : Nat} (h : BoxE w B x) (i : Nat) (a : Acc) (hi : x.list[i]? = some a) (j : Nat) (u : Value) (hj : a.cells[j]? = some u) : w.cell? ⟨B, 7 + (i * 3 + j), none⟩ = some u := by
  refine h.at _ _ ?_
  match i with
  | 0 => simp only [Ev.list, List.getElem?_cons_zero, List.getElem?_cons_succ, Option.some.injEq] at hi; subst hi; match j with | 0 => exact hj | 1 => exact hj | 2 => exact hj | j + 3 => simp [Acc.cells] at hj
  | 1 => simp only [Ev.list, List.getElem?_cons_zero, List.getElem?_cons_succ, Option.some.injEq] at hi; subst hi; match j with | 0 => exact hj | 1 => exact hj | 2 => exact hj | j + 3 => simp [Acc.cells] at hj
  | 2 => simp only [Ev.list, List.getElem?_cons_zero, List.getElem?_cons_succ, Option.some.injEq] at hi; subst hi; match j with | 0 => exact hj | 1 => exact hj | 2 => exact hj | j + 3 => simp [Acc.cells] at hj
  | 3 => simp only [Ev.list, List.getElem?_cons_zero, List.getElem?_cons_succ, Option.some.injEq] at hi; subst hi; match j with | 0 => exact hj | 1 => exact hj | 2 => exact hj | j + 3 => simp [Acc.cells] at hj
  | 4 => simp only [Ev.list, List.getElem?_cons_zero, List.getElem?_cons_succ, Option.some.injEq] at hi; subst hi; match j with | 0 => exact hj | 1 => exact hj | 2 => exact hj | j + 3 => simp [Acc.cells] at hj
  | 5 => simp only [Ev.list, List.getElem?_cons_zero, List.getElem?_cons_succ, Option.some.injEq] at hi; subst hi; match j with | 0 => exact hj | 1 => exact hj | 2 => exact hj | j + 3 => simp [Acc.cells] at hj
  | i + 6 => simp [Ev.list] at hi
/-- The accesses of an event in its box. -/
theorem rowsE {w : World} {B : Nat} {x : Ev} (h : BoxE w B x) : Rows w 3 (some ⟨B, 7, none⟩) 6 (x.of.map Acc.cells) := by
  have hl := tN_le x.n
  refine ⟨by rw [List.length_map, Ev.of_len]; exact hl, by omega, by simp, .inr ⟨B, 7, rfl, World.block_lt_of_cell? _ _ h.1, fun i row hi => ?_⟩⟩
  rw [List.getElem?_map, Option.map_eq_some_iff] at hi
  obtain ⟨a, ha, rfl⟩ := hi
  refine ⟨rfl, fun j u hj => x.list_at h i a ?_ j u hj⟩
  unfold Ev.of at ha
  rw [List.getElem?_take] at ha
  split at ha
  · exact ha
  · cases ha
theorem touches_any (x : Ev) (w : World) : Calls Try.prog 43 #[x.val] w fun e w' => e = .returned (.int .i64 ((tN x.n : Nat) : Int)) ∧ Below w.heap.size w w' := by
  have hT := tN_int x.n
  have hH : Hid (max 0 (min x.n 6) = ((tN x.n : Nat) : Int)) := hT.symm
  clear hT
  go_enter Try.func43, Try.ntmps43
  go_wp2
  go_ret
  exact ⟨ret_i hH.out, boxed _ _⟩

theorem boxE_cls {W : World} {B : Nat} {x : Ev} (h : BoxE W B x) : (∀ s : Cls (Bey W), s.w.cell? ⟨B, 0, none⟩ = some (.int .i64 x.go)) ∧ (∀ s : Cls (Bey W), s.w.cell? ⟨B, 1, none⟩ = some (.int .i64 x.fn)) ∧ (∀ s : Cls (Bey W), s.w.cell? ⟨B, 2, none⟩ = some (.int .i64 x.pc)) ∧ (∀ s : Cls (Bey W), s.w.cell? ⟨B, 3, none⟩ = some (.int .i64 x.op)) ∧ (∀ s : Cls (Bey W), s.w.cell? ⟨B, 4, none⟩ = some (.int .i64 x.alt)) ∧ (∀ s : Cls (Bey W), s.w.cell? ⟨B, 5, none⟩ = some (.int .i64 x.vl)) ∧ (∀ s : Cls (Bey W), s.w.cell? ⟨B, 6, none⟩ = some (.int .i64 x.tag)) ∧ (∀ s : Cls (Bey W), s.w.cell? ⟨B, 7, none⟩ = some (.int .i64 x.t0.kind)) ∧ (∀ s : Cls (Bey W), s.w.cell? ⟨B, 8, none⟩ = some (.int .i64 x.t0.num)) ∧ (∀ s : Cls (Bey W), s.w.cell? ⟨B, 9, none⟩ = some (.bool x.t0.wr)) ∧ (∀ s : Cls (Bey W), s.w.cell? ⟨B, 10, none⟩ = some (.int .i64 x.t1.kind)) ∧ (∀ s : Cls (Bey W), s.w.cell? ⟨B, 11, none⟩ = some (.int .i64 x.t1.num)) ∧ (∀ s : Cls (Bey W), s.w.cell? ⟨B, 12, none⟩ = some (.bool x.t1.wr)) ∧ (∀ s : Cls (Bey W), s.w.cell? ⟨B, 13, none⟩ = some (.int .i64 x.t2.kind)) ∧ (∀ s : Cls (Bey W), s.w.cell? ⟨B, 14, none⟩ = some (.int .i64 x.t2.num)) ∧ (∀ s : Cls (Bey W), s.w.cell? ⟨B, 15, none⟩ = some (.bool x.t2.wr)) ∧ (∀ s : Cls (Bey W), s.w.cell? ⟨B, 16, none⟩ = some (.int .i64 x.t3.kind)) ∧ (∀ s : Cls (Bey W), s.w.cell? ⟨B, 17, none⟩ = some (.int .i64 x.t3.num)) ∧ (∀ s : Cls (Bey W), s.w.cell? ⟨B, 18, none⟩ = some (.bool x.t3.wr)) ∧ (∀ s : Cls (Bey W), s.w.cell? ⟨B, 19, none⟩ = some (.int .i64 x.t4.kind)) ∧ (∀ s : Cls (Bey W), s.w.cell? ⟨B, 20, none⟩ = some (.int .i64 x.t4.num)) ∧ (∀ s : Cls (Bey W), s.w.cell? ⟨B, 21, none⟩ = some (.bool x.t4.wr)) ∧ (∀ s : Cls (Bey W), s.w.cell? ⟨B, 22, none⟩ = some (.int .i64 x.t5.kind)) ∧ (∀ s : Cls (Bey W), s.w.cell? ⟨B, 23, none⟩ = some (.int .i64 x.t5.num)) ∧ (∀ s : Cls (Bey W), s.w.cell? ⟨B, 24, none⟩ = some (.bool x.t5.wr)) ∧ (∀ s : Cls (Bey W), s.w.cell? ⟨B, 25, none⟩ = some (.int .i64 x.n)) :=
  ⟨fun s => (h.later s.h).at 0 _ rfl, fun s => (h.later s.h).at 1 _ rfl, fun s => (h.later s.h).at 2 _ rfl, fun s => (h.later s.h).at 3 _ rfl, fun s => (h.later s.h).at 4 _ rfl, fun s => (h.later s.h).at 5 _ rfl, fun s => (h.later s.h).at 6 _ rfl, fun s => (h.later s.h).at 7 _ rfl, fun s => (h.later s.h).at 8 _ rfl, fun s => (h.later s.h).at 9 _ rfl, fun s => (h.later s.h).at 10 _ rfl, fun s => (h.later s.h).at 11 _ rfl, fun s => (h.later s.h).at 12 _ rfl, fun s => (h.later s.h).at 13 _ rfl, fun s => (h.later s.h).at 14 _ rfl, fun s => (h.later s.h).at 15 _ rfl, fun s => (h.later s.h).at 16 _ rfl, fun s => (h.later s.h).at 17 _ rfl, fun s => (h.later s.h).at 18 _ rfl, fun s => (h.later s.h).at 19 _ rfl, fun s => (h.later s.h).at 20 _ rfl, fun s => (h.later s.h).at 21 _ rfl, fun s => (h.later s.h).at 22 _ rfl, fun s => (h.later s.h).at 23 _ rfl, fun s => (h.later s.h).at 24 _ rfl, fun s => (h.later s.h).at 25 _ rfl⟩
section
variable {H : Type} {enc : TypeId × Value → H} {w : World} {base : Nat} {spare : Nat → Bool} {held : Bool}
/-- A part of a struct, at its place. -/
theorem part_in {P : Program} {t : TypeId} {fs : Array Field} {fuel : Nat} {cs : List Value} {x : DataW H × List MemPlace} (ht : P.underlying t = some (.struct fs)) (h : DataW.trod enc P w base spare held fuel t cs = some x)
    (i : Nat) (f : Field) (hi : fs[i]? = some f) : ∃ y n, DataW.trod enc P w base spare held n f.type ((cs.drop f.offset).take (P.cellsOf f.type)) = some y := by
  obtain ⟨xs, n, _, _, _, hlen, hf⟩ := DataW.trod_struct ht h
  have h1 := hf i f hi
  have hlt : i < xs.length := by rw [hlen]; exact (Array.getElem?_eq_some_iff.mp hi).1
  rw [List.getElem?_eq_getElem hlt] at h1
  exact ⟨_, n, h1⟩

theorem ev_in {n : Nat} {cs : List Value} {y : DataW H × List MemPlace} (hl : cs.length = 26) (h : DataW.trod enc Try.prog w base spare held n 55 cs = some y) : ∃ x : Ev, cs = x.cells ∧ x.wf := by
  match cs, hl, h with
  | [c0, c1, c2, c3, c4, c5, c6, c7, c8, c9, c10, c11, c12, c13, c14, c15, c16, c17, c18, c19, c20, c21, c22, c23, c24, c25], _, h =>
    have hc3 : Try.prog.cellsOf 52 = 3 := by kernel_rfl
    have hc18 : Try.prog.cellsOf 53 = 18 := by kernel_rfl
    have hc1 : Try.prog.cellsOf 3 = 1 := by kernel_rfl
    obtain ⟨v0, _, _, e0, t0⟩ := field_in Try.underlying55 h 0 _ rfl rfl (by kernel_rfl) (by simp)
    obtain ⟨z0, rfl, b0⟩ := int_in Try.underlying3 t0
    obtain rfl : c0 = .int .i64 z0 := by simpa using e0
    obtain ⟨v1, _, _, e1, t1⟩ := field_in Try.underlying55 h 1 _ rfl rfl (by kernel_rfl) (by simp)
    obtain ⟨z1, rfl, b1⟩ := int_in Try.underlying3 t1
    obtain rfl : c1 = .int .i64 z1 := by simpa using e1
    obtain ⟨v2, _, _, e2, t2⟩ := field_in Try.underlying55 h 2 _ rfl rfl (by kernel_rfl) (by simp)
    obtain ⟨z2, rfl, b2⟩ := int_in Try.underlying3 t2
    obtain rfl : c2 = .int .i64 z2 := by simpa using e2
    obtain ⟨v3, _, _, e3, t3⟩ := field_in Try.underlying55 h 3 _ rfl rfl (by kernel_rfl) (by simp)
    obtain ⟨z3, rfl, b3⟩ := int_in Try.underlying50 t3
    obtain rfl : c3 = .int .i64 z3 := by simpa using e3
    obtain ⟨v4, _, _, e4, t4⟩ := field_in Try.underlying55 h 4 _ rfl rfl (by kernel_rfl) (by simp)
    obtain ⟨z4, rfl, b4⟩ := int_in Try.underlying3 t4
    obtain rfl : c4 = .int .i64 z4 := by simpa using e4
    obtain ⟨v5, _, _, e5, t5⟩ := field_in Try.underlying55 h 5 _ rfl rfl (by kernel_rfl) (by simp)
    obtain ⟨z5, rfl, b5⟩ := int_in Try.underlying2 t5
    obtain rfl : c5 = .int .i64 z5 := by simpa using e5
    obtain ⟨v6, _, _, e6, t6⟩ := field_in Try.underlying55 h 6 _ rfl rfl (by kernel_rfl) (by simp)
    obtain ⟨z6, rfl, b6⟩ := int_in Try.underlying2 t6
    obtain rfl : c6 = .int .i64 z6 := by simpa using e6
    obtain ⟨ya, na, ha⟩ := part_in Try.underlying55 h 7 _ rfl
    obtain ⟨yn, nn, hn⟩ := part_in Try.underlying55 h 8 _ rfl
    obtain ⟨zn, rfl, bn⟩ := int_in Try.underlying3 hn
    obtain ⟨xs, m, _, _, _, hlen, hf⟩ := DataW.trod_array Try.underlying53 ha
    rw [hc3] at hf
    have g0 := hf 0 (by omega)
    rw [List.getElem?_eq_getElem (by omega)] at g0
    simp only [Nat.reduceMul, List.drop_succ_cons, List.drop_zero, List.take_succ_cons, List.take_zero] at g0
    obtain ⟨a0, q0, p0⟩ := acc_in rfl g0
    simp only [Acc.cells, List.cons.injEq, and_true] at q0
    obtain ⟨rfl, rfl, rfl⟩ := q0
    have g1 := hf 1 (by omega)
    rw [List.getElem?_eq_getElem (by omega)] at g1
    simp only [Nat.reduceMul, List.drop_succ_cons, List.drop_zero, List.take_succ_cons, List.take_zero] at g1
    obtain ⟨a1, q1, p1⟩ := acc_in rfl g1
    simp only [Acc.cells, List.cons.injEq, and_true] at q1
    obtain ⟨rfl, rfl, rfl⟩ := q1
    have g2 := hf 2 (by omega)
    rw [List.getElem?_eq_getElem (by omega)] at g2
    simp only [Nat.reduceMul, List.drop_succ_cons, List.drop_zero, List.take_succ_cons, List.take_zero] at g2
    obtain ⟨a2, q2, p2⟩ := acc_in rfl g2
    simp only [Acc.cells, List.cons.injEq, and_true] at q2
    obtain ⟨rfl, rfl, rfl⟩ := q2
    have g3 := hf 3 (by omega)
    rw [List.getElem?_eq_getElem (by omega)] at g3
    simp only [Nat.reduceMul, List.drop_succ_cons, List.drop_zero, List.take_succ_cons, List.take_zero] at g3
    obtain ⟨a3, q3, p3⟩ := acc_in rfl g3
    simp only [Acc.cells, List.cons.injEq, and_true] at q3
    obtain ⟨rfl, rfl, rfl⟩ := q3
    have g4 := hf 4 (by omega)
    rw [List.getElem?_eq_getElem (by omega)] at g4
    simp only [Nat.reduceMul, List.drop_succ_cons, List.drop_zero, List.take_succ_cons, List.take_zero] at g4
    obtain ⟨a4, q4, p4⟩ := acc_in rfl g4
    simp only [Acc.cells, List.cons.injEq, and_true] at q4
    obtain ⟨rfl, rfl, rfl⟩ := q4
    have g5 := hf 5 (by omega)
    rw [List.getElem?_eq_getElem (by omega)] at g5
    simp only [Nat.reduceMul, List.drop_succ_cons, List.drop_zero, List.take_succ_cons, List.take_zero] at g5
    obtain ⟨a5, q5, p5⟩ := acc_in rfl g5
    simp only [Acc.cells, List.cons.injEq, and_true] at q5
    obtain ⟨rfl, rfl, rfl⟩ := q5
    exact ⟨⟨z0, z1, z2, z3, z4, z5, z6, a0, a1, a2, a3, a4, a5, zn⟩, rfl, ⟨b0, b1, b2, b3, b4, b5, b6⟩, fun t ht => by simp only [Ev.list, List.mem_cons, List.not_mem_nil, or_false] at ht; rcases ht with rfl | rfl | rfl | rfl | rfl | rfl <;> assumption, bn⟩
/-- An event that came in, opened. -/
theorem ev_arg {n : Nat} {cs : List Value} {y : DataW H × List MemPlace} (h : DataW.trod enc Try.prog w base spare held n 55 cs = some y) : ∃ x : Ev, Value.agg cs.toArray = x.val ∧ x.wf := by
  have hl : cs.length = 26 := by
    obtain ⟨xs, n, _, _, hl, _⟩ := DataW.trod_struct Try.underlying55 h
    rw [hl]
    kernel_rfl
  obtain ⟨x, rfl, hw⟩ := ev_in hl h
  exact ⟨x, rfl, hw⟩
end
end Go.Proofs.Ytdfnmlcpimiboaa.pg
