/- What every statement of package depend asks first. -/
import Derived.Test.YtdfnmlcpimiboaaM6
namespace Go.Proofs.Ytdfnmlcpimiboaa.pg
open Go.ChangeShapes Go.WideShapes Go.ChangeAt Go.RowKit
set_option linter.unusedVariables false
set_option linter.unusedSimpArgs false
set_option maxRecDepth 100000
attribute [local go_sem ↓] Go.wp_at_zero Go.wp_at_succ
/-- The event of noughts. -/
abbrev ev0 : Ev := ⟨0, 0, 0, 0, 0, 0, 0, ⟨0, 0, false⟩, ⟨0, 0, false⟩, ⟨0, 0, false⟩, ⟨0, 0, false⟩, ⟨0, 0, false⟩, ⟨0, 0, false⟩, 0⟩
theorem rows_acc {w : World} {g : Nat} {x : Acc} (h : BoxA w g x) : Rows w 3 (some ⟨g, 0, none⟩) 1 ([x].map Acc.cells) := by
  refine ⟨by simp, by omega, by simp, .inr ⟨g, 0, rfl, World.block_lt_of_cell? _ _ h.1, fun i row hi => ?_⟩⟩
  match i with
  | 0 =>
    simp at hi
    subst hi
    refine ⟨rfl, fun j u hj => ?_⟩
    match j with
    | 0 => simp [Acc.cells] at hj; subst hj; exact h.1
    | 1 => simp [Acc.cells] at hj; subst hj; exact h.2.1
    | 2 => simp [Acc.cells] at hj; subst hj; exact h.2.2
    | j + 3 => simp [Acc.cells] at hj
  | i + 1 => simp at hi
end Go.Proofs.Ytdfnmlcpimiboaa.pg
/- When events are a trace, as plain mathematics; the numbers of objects; the order of accesses. -/
namespace Go.Proofs.Ytdfnmlcpimiboaa.pg
open Go.ChangeShapes Go.WideShapes Go.ChangeAt Go.RowKit
set_option linter.unusedVariables false
set_option linter.unusedSimpArgs false
set_option maxRecDepth 100000
attribute [local go_sem ↓] Go.wp_at_zero Go.wp_at_succ
/-- How many objects of a kind there may be. -/
def manyP (k : Int) : Int := if k = 1 then 8 else if k = 2 then 4 else if k = 3 then 4 else if k = 4 then 1 else if k = 5 then 6 else if k = 6 then 1 else 0
theorem kinds (k : Int) : k = 1 ∨ k = 2 ∨ k = 3 ∨ k = 4 ∨ k = 5 ∨ k = 6 ∨ ((k == 1) = false ∧ (k == 2) = false ∧ (k == 3) = false ∧ (k == 4) = false ∧ (k == 5) = false ∧ (k == 6) = false ∧ manyP k = 0) := by
  by_cases h1 : k = 1
  · exact .inl h1
  by_cases h2 : k = 2
  · exact .inr (.inl h2)
  by_cases h3 : k = 3
  · exact .inr (.inr (.inl h3))
  by_cases h4 : k = 4
  · exact .inr (.inr (.inr (.inl h4)))
  by_cases h5 : k = 5
  · exact .inr (.inr (.inr (.inr (.inl h5))))
  by_cases h6 : k = 6
  · exact .inr (.inr (.inr (.inr (.inr (.inl h6)))))
  · exact .inr (.inr (.inr (.inr (.inr (.inr ⟨by simpa using h1, by simpa using h2, by simpa using h3, by simpa using h4, by simpa using h5, by simpa using h6, by simp [manyP, h1, h2, h3, h4, h5, h6]⟩)))))
theorem many_any (k : Int) (w : World) : Calls Try.prog 58 #[.int .i64 k] w fun e w' => e = .returned (.int .i64 (manyP k)) ∧ w' = w := by
  rcases kinds k with rfl | rfl | rfl | rfl | rfl | rfl | ⟨h1, h2, h3, h4, h5, h6, h7⟩
  case inr.inr.inr.inr.inr.inr =>
    have hH : Hid (manyP k = 0) := h7
    clear h7
    go_enter Try.func58, Try.ntmps58
    go_wp2
    go_ret
    exact ⟨by rw [hH.out]; rfl, rfl⟩
  all_goals
    go_enter Try.func58, Try.ntmps58
    go_wp2
    go_ret
    exact ⟨rfl, rfl⟩
theorem few_any (k : Int) (w : World) : Calls Try.prog 55 #[.int .i64 k] w fun e w' => e = .returned (.int .i64 (manyP k)) ∧ w' = w := by
  rcases kinds k with rfl | rfl | rfl | rfl | rfl | rfl | ⟨h1, h2, h3, h4, h5, h6, h7⟩
  case inr.inr.inr.inr.inr.inr =>
    have hH : Hid (manyP k = 0) := h7
    clear h7
    go_enter Try.func55, Try.ntmps55
    go_wp2
    go_ret
    exact ⟨by rw [hH.out]; rfl, rfl⟩
  all_goals
    go_enter Try.func55, Try.ntmps55
    go_wp2
    go_ret
    exact ⟨rfl, rfl⟩
/-- The order of two numbers. -/
def cmpP (a b : Int) : Int := if a < b then -1 else if b < a then 1 else 0
theorem nan_any (a : Int) (w : World) : Calls Try.prog 70 #[.int .i64 a] w fun e w' => e = .returned (.bool false) ∧ w' = w := by
  go_enter Try.func70, Try.ntmps70
  go_wp2
  go_ret
  exact ⟨ret_b (by simp), rfl⟩
theorem cmp_any (a b : Int) (w : World) : Calls Try.prog 67 #[.int .i64 a, .int .i64 b] w fun e w' => e = .returned (.int .i64 (cmpP a b)) ∧ w' = w := by
  have c := fun x wx => nan_any x wx
  by_cases h1 : a < b
  · have hH : Hid (cmpP a b = -1) := by show _ = _; simp [cmpP, h1]
    go_enter Try.func67, Try.ntmps67
    go_wp2_with (go_at_call 70; refine (c _ _).mono ?_; rintro e w' ⟨rfl, rfl⟩)
    go_ret
    exact ⟨by rw [hH.out]; rfl, rfl⟩
  · by_cases h2 : b < a
    · have hH : Hid (cmpP a b = 1) := by show _ = _; simp [cmpP, h1, h2]
      go_enter Try.func67, Try.ntmps67
      go_wp2_with (go_at_call 70; refine (c _ _).mono ?_; rintro e w' ⟨rfl, rfl⟩)
      go_ret
      exact ⟨by rw [hH.out]; rfl, rfl⟩
    · have hH : Hid (cmpP a b = 0) := by show _ = _; simp [cmpP, h1, h2]
      go_enter Try.func67, Try.ntmps67
      go_wp2_with (go_at_call 70; refine (c _ _).mono ?_; rintro e w' ⟨rfl, rfl⟩)
      go_ret
      exact ⟨by rw [hH.out]; rfl, rfl⟩
/-- The first of two that is not nought. -/
def orP (c d : Int) : Int := if c = 0 then d else c
theorem or_any (c d : Int) (g : Nat) (w : World) (h0 : w.cell? ⟨g, 0, none⟩ = some (.int .i64 c)) (h1 : w.cell? ⟨g, 1, none⟩ = some (.int .i64 d)) : Calls Try.prog 66 #[.slice (some ⟨g, 0, none⟩) 2 2] w fun e w' => e = .returned (.int .i64 (orP c d)) ∧ w' = w := by
  go_enter Try.func66, Try.ntmps66
  go_wp2
  go_loopw [8] (fun u wr => (u = .int .i64 0 ∨ u = .int .i64 1 ∧ c = 0 ∨ u = .int .i64 2 ∧ c = 0 ∧ d = 0) ∧ wr = w) (fun u _ => 2 - (intOf u).toNat)
  case atStart => exact ⟨.inl rfl, rfl⟩
  case round =>
    obtain ⟨hr, rfl⟩ := hrel
    rcases hr with rfl | ⟨rfl, rfl⟩ | ⟨rfl, rfl, rfl⟩
    · by_cases hc : c = 0
      · subst hc
        go_wp2
        go_roundw
        case rel => exact ⟨.inr (.inl ⟨rfl, by first | rfl | trivial⟩), by first | rfl | trivial⟩
        case measure => simp [intOf]
      · have hb : (c == 0) = false := by simpa using hc
        have hH : Hid (orP c d = c) := by show _ = _; simp [orP, hc]
        clear hc
        go_wp2
        go_ret
        exact ⟨by rw [hH.out]; rfl, rfl⟩
    · by_cases hc : d = 0
      · subst hc
        go_wp2
        go_roundw
        case rel => exact ⟨.inr (.inr ⟨rfl, by first | rfl | trivial | exact ⟨trivial, trivial⟩ | simp⟩), by first | rfl | trivial⟩
        case measure => simp [intOf]
      · have hb : (d == 0) = false := by simpa using hc
        clear hc
        go_wp2
        go_ret
        exact ⟨rfl, rfl⟩
    · go_wp2
      go_ret
      exact ⟨rfl, rfl⟩
end Go.Proofs.Ytdfnmlcpimiboaa.pg
/- The order of accesses; whether a list has an access. -/
namespace Go.Proofs.Ytdfnmlcpimiboaa.pg
open Go.ChangeShapes Go.WideShapes Go.ChangeAt Go.RowKit
set_option linter.unusedVariables false
set_option linter.unusedSimpArgs false
set_option maxRecDepth 100000
attribute [local go_sem ↓] Go.wp_at_zero Go.wp_at_succ
/-- An access stands ahead of another one. -/
def bef (x y : Acc) : Bool := decide (x.kind < y.kind ∨ x.kind = y.kind ∧ x.num < y.num)
def cmpA (x y : Acc) : Int := orP (cmpP x.kind y.kind) (cmpP x.num y.num)
theorem cmpA_bef (x y : Acc) : 0 ≤ cmpA x y ↔ bef x y = false := by
  unfold cmpA orP cmpP bef
  rw [decide_eq_false_iff_not]
  by_cases a : x.kind < y.kind <;> by_cases b : y.kind < x.kind <;> by_cases c : x.num < y.num <;> by_cases d : y.num < x.num <;> simp [a, b, c, d] <;> omega
theorem keep4 {A0 A1 A2 A3 Q : Prop} (h : A0 ∧ A1 ∧ A2 ∧ A3 ∧ Q) : Q := h.2.2.2.2
set_option maxHeartbeats 1000000 in
theorem compare_any (x y : Acc) (w : World) : Calls Try.prog 59 #[x.val, y.val] w fun e w' => e = .returned (.int .i64 (cmpA x y)) ∧ Below w.heap.size w w' := by
  have hb := boxed2 w (objA x) (objA y)
  have bA := (boxA_new w x).later (boxed (w.alloc (objA x)) (objA y))
  have bB := boxA_new (w.alloc (objA x)) y
  rw [World.size_alloc] at bB
  have cC : ∀ a b wx, Calls Try.prog 67 #[.int .i64 a, .int .i64 b] wx _ := fun a b wx => cmp_any a b wx
  go_enter Try.func59, Try.ntmps59
  go_wp2_with fail
  generalize (w.alloc (objA x)).alloc (objA y) = W at *
  generalize w.heap.size + 1 = B0 at *
  have hbH : Hid (Below w.heap.size w W) := hb
  have KH : Hid (∀ w', Below W.heap.size W w' → w'.cell? ⟨w.heap.size, 0, none⟩ = some (.int .i64 x.kind) ∧ w'.cell? ⟨w.heap.size, 1, none⟩ = some (.int .i64 x.num) ∧ w'.cell? ⟨B0, 0, none⟩ = some (.int .i64 y.kind) ∧ w'.cell? ⟨B0, 1, none⟩ = some (.int .i64 y.num) ∧ Below W.heap.size W w') := fun w' h' => ⟨(bA.later h').1, (bA.later h').2.1, (bB.later h').1, (bB.later h').2.1, h'⟩
  clear hb bA bB
  go_region_held3 (fun w' => w'.cell? ⟨w.heap.size, 0, none⟩ = some (.int .i64 x.kind) ∧ w'.cell? ⟨w.heap.size, 1, none⟩ = some (.int .i64 x.num) ∧ w'.cell? ⟨B0, 0, none⟩ = some (.int .i64 y.kind) ∧ w'.cell? ⟨B0, 1, none⟩ = some (.int .i64 y.num) ∧ Below W.heap.size W w') ((refine KH.out _ ?_; repeat (first | assumption | exact keep4 (by assumption) | exact Below.refl _ _ | refine Below.drew ?_ | refine bthen ?_ (boxed _ _))))
    (first
      | (go_at_call 67; (with_reducible refine (cC _ _ _).mono ?_); rintro e w' ⟨rfl, rfl⟩)
      | (go_at_call 66; (refine (or_any _ _ _ _ (World.cell?_alloc_at _ _ _ _ rfl) (World.cell?_alloc_at _ _ _ _ rfl)).mono ?_); rintro e w' ⟨rfl, rfl⟩))
  all_goals go_wp2
  all_goals go_ret
  all_goals exact ⟨rfl, bthen hbH.out (by repeat (first | assumption | exact keep4 (by assumption) | exact Below.refl _ _ | refine Below.drew ?_ | refine bthen ?_ (boxed _ _)))⟩
set_option maxHeartbeats 1000000 in
theorem index_any (l : List Acc) (a : Option Addr) (c : Nat) (v : Acc) (w : World) (hl : Rows w 3 a c (l.map Acc.cells)) : Calls Try.prog 68 #[.slice a l.length c, v.val] w fun e w' => ∃ r : Int, e = .returned (.int .i64 r) ∧ (0 ≤ r ↔ v ∈ l) ∧ Below w.heap.size w w' := by
  have hlI := rows_len hl
  have hlH : Hid (Rows w 3 a c (l.map Acc.cells)) := hl
  have hb := boxed w (objA v)
  have bA := boxA_new w v
  clear hl
  go_enter Try.func68, Try.ntmps68
  go_wp2_with fail
  generalize w.alloc (objA v) = W at *
  obtain ⟨k0, k1, k2⟩ := bA
  have hbH : Hid (Below w.heap.size w W) := hb
  clear hb
  go_loopw [8] (fun u wr => ∃ k n : Nat, k ≤ l.length ∧ u = .int .i64 k ∧ wr = W.drewN n ∧ Hid (∀ x ∈ l.take k, x ≠ v)) (fun u _ => l.length - (intOf u).toNat)
  case atStart => exact ⟨0, 0, Nat.zero_le _, rfl, rfl, fun s hs => by simp at hs⟩
  case round =>
    obtain ⟨k, n, hk, rfl, rfl, hno⟩ := hrel
    by_cases hlt : k < l.length
    · obtain ⟨y, hy, hym⟩ := get_lt l k hlt
      obtain ⟨b1, o1, hix1, hbl1, m0, m1, m2⟩ := acc_ix (hlH.out.later hbH.out) k y hy
      have hkI : (k : Int) < l.length := by omega
      have heq := fun wx => run_eqA v y wx
      by_cases e : v = y
      · rw [(eqA_iff v y).mpr e] at heq
        have hin : Hid (v ∈ l) := e ▸ hym
        clear e
        go_wp2
        refine wp_region_quiet_lit (by kernel_rfl) (by kernel_rfl) ?_
        repeat (go_big_quiet_step (fail))
        refine wpQuiet_nil ?_
        intro _ hw'
        obtain ⟨nq, hw''⟩ := hw'
        subst hw''
        go_wp2
        go_ret
        exact ⟨_, rfl, ⟨fun _ => hin.out, fun _ => by omega⟩, bthen hbH.out (below_drewN (below_drewN (Below.refl _ _) n) nq)⟩
      · rw [Bool.eq_false_iff.mpr fun q => e ((eqA_iff v y).mp q)] at heq
        have eH : Hid (∀ x ∈ l.take (k + 1), x ≠ v) := fun z hz => by
          rw [take_one l k y hy, List.mem_append, List.mem_singleton] at hz
          rcases hz with hz | rfl
          · exact hno.out z hz
          · exact fun q => e q.symm
        clear e
        go_wp2
        refine wp_region_quiet_lit (by kernel_rfl) (by kernel_rfl) ?_
        repeat (go_big_quiet_step (fail))
        refine wpQuiet_nil ?_
        intro _ hw'
        obtain ⟨nq, hw''⟩ := hw'
        subst hw''
        go_wp2
        go_roundw
        case rel => exact ⟨k + 1, n + nq, by omega, by go_num, rfl, eH⟩
        case measure => simp [intOf]; omega
    · have hk2 : k = l.length := by omega
      subst hk2
      rw [List.take_length] at hno
      go_wp2
      go_ret
      exact ⟨_, rfl, ⟨fun q => absurd q (by omega), fun q => absurd rfl (hno.out v q)⟩, bthen hbH.out (below_drewN (Below.refl _ _) _)⟩
theorem contains_any (l : List Acc) (a : Option Addr) (c : Nat) (v : Acc) (w : World) (hl : Rows w 3 a c (l.map Acc.cells)) (R : Bool) (hR : Hid (R = true ↔ v ∈ l)) : Calls Try.prog 60 #[.slice a l.length c, v.val] w fun e w' => e = .returned (.bool R) ∧ Below w.heap.size w w' := by
  have c1 : Calls Try.prog 68 #[.slice a l.length c, v.val] (w.alloc (objA v)) _ := index_any l a c v _ (hl.later (boxed _ _))
  clear hl
  go_enter Try.func60, Try.ntmps60
  go_wp2_with (go_at_call 68; (with_reducible refine c1.mono ?_); rintro e w1 ⟨r, rfl, hr, hb1⟩; (have hrH : Hid (0 ≤ r ↔ v ∈ l) := hr); clear hr)
  go_ret
  exact ⟨ret_b (by rw [Bool.eq_iff_iff, decide_eq_true_iff]; exact hrH.out.trans hR.out.symm), bthen (boxed _ _) hb1⟩
end Go.Proofs.Ytdfnmlcpimiboaa.pg
