/- What is no event of a trace: Check of it. -/
import Derived.Test.YtklpifammbnldaaM11
import Derived.Test.YtklpifammbnldaaM3
namespace Go.Proofs.Ytklpifammbnldaa.pg
open Go.ChangeShapes Go.WideShapes Go.ChangeAt Go.RowKit
set_option linter.unusedVariables false
set_option linter.unusedSimpArgs false
set_option maxRecDepth 100000
attribute [local go_sem ↓] Go.wp_at_zero Go.wp_at_succ
theorem ev_one (x : Ev) : x.cells.toArray.all (·.oneCell') = true := by simp [Ev.cells, Value.oneCell']
theorem right_few (x : Ev) (w : World) (hn : x.n < 1) : Calls Try.prog 53 #[x.val] w fun e w' => e = .returned (.bool false) ∧ Below w.heap.size w w' := by
  by_cases h0 : x.go < 0
  · go_enter Try.func53, Try.ntmps53
    go_wp2
    go_ret
    exact ⟨rfl, boxed _ _⟩
  · by_cases h1 : 6 ≤ x.go
    all_goals
      go_enter Try.func53, Try.ntmps53
      go_wp2
      go_ret
      exact ⟨rfl, boxed _ _⟩
set_option maxHeartbeats 1000000 in
theorem check_few (x : Ev) (w : World) (g : Nat) (hn : x.n < 1) (hr : w.rangeAt g 0 x.cells) : Calls Try.prog 37 #[.slice (some ⟨g, 0, none⟩) 1 1] w fun e w' => e = .returned (.int .i64 7) ∧ Below w.heap.size w w' := by
  have hrH : Hid (w.rangeAt g 0 x.cells) := hr
  have hu := Try.underlying92
  have hi : (Try.prog.info? 92).map (·.size) = some x.cells.length := by kernel_rfl
  have huH : Hid (Try.prog.underlying 92 = _) := hu
  have hiH : Hid ((Try.prog.info? 92).map (·.size) = some x.cells.length) := hi
  have c1 : ∀ wx, Calls Try.prog 53 #[.agg x.cells.toArray] wx _ := fun wx => right_few x wx hn
  clear hr hu hi
  go_enter Try.func37, Try.ntmps37
  go_wp2
  go_loopw [10] (fun u wr => u = .int .i64 0 ∧ wr = w) (fun _ _ => 0)
  case atStart => exact ⟨rfl, rfl⟩
  case round =>
    obtain ⟨rfl, rfl⟩ := hrel
    go_wp2_with (first
      | (refine wpList_load_mid rfl 92 _ rfl g 0 rfl x.cells _ hrH.out huH.out rfl hiH.out ?_)
      | (refine wpList_store_new rfl 92 _ _ rfl rfl _ x.cells.toArray rfl (by kernel_rfl) rfl (ev_one x) ?_)
      | (refine wpList_load_mid rfl 92 _ rfl wr.heap.size 0 rfl x.cells _ (boxE_new wr x).range huH.out rfl hiH.out ?_)
      | (go_at_call 53; (with_reducible refine (c1 _).mono ?_); rintro e w1 ⟨rfl, hb1⟩))
    go_ret
    exact ⟨rfl, bthen (boxed _ _) hb1⟩
end Go.Proofs.Ytklpifammbnldaa.pg
/- What every statement of package depend asks first. -/
namespace Go.Proofs.Ytklpifammbnldaa.pg
open Go.ChangeShapes Go.WideShapes Go.ChangeAt Go.RowKit
set_option linter.unusedVariables false
set_option linter.unusedSimpArgs false
set_option maxRecDepth 100000
attribute [local go_sem ↓] Go.wp_at_zero Go.wp_at_succ
/-- The event of noughts. -/
abbrev ev0 : Ev := ⟨0, 0, 0, 0, 0, 0, 0, ⟨0, 0, false⟩, ⟨0, 0, false⟩, ⟨0, 0, false⟩, ⟨0, 0, false⟩, ⟨0, 0, false⟩, ⟨0, 0, false⟩, 0⟩
theorem rows_acc {w : World} {g : Nat} {x : Acc} (h : BoxA w g x) : Rows w 3 (some ⟨g, 0, none⟩) 1 ([x].map Acc.cells) := by
  refine ⟨by simp, by omega, by simp, .inr ⟨g, 0, rfl, World.block_lt_of_cell? _ _ h.1, fun i row hi => ?_⟩⟩
  match i with
  | 0 =>
    simp at hi
    subst hi
    refine ⟨rfl, fun j u hj => ?_⟩
    match j with
    | 0 => simp [Acc.cells] at hj; subst hj; exact h.1
    | 1 => simp [Acc.cells] at hj; subst hj; exact h.2.1
    | 2 => simp [Acc.cells] at hj; subst hj; exact h.2.2
    | j + 3 => simp [Acc.cells] at hj
  | i + 1 => simp at hi
end Go.Proofs.Ytklpifammbnldaa.pg
/- When events are a trace, as plain mathematics; the numbers of objects; the order of accesses. -/
namespace Go.Proofs.Ytklpifammbnldaa.pg
open Go.ChangeShapes Go.WideShapes Go.ChangeAt Go.RowKit
set_option linter.unusedVariables false
set_option linter.unusedSimpArgs false
set_option maxRecDepth 100000
attribute [local go_sem ↓] Go.wp_at_zero Go.wp_at_succ
/-- How many objects of a kind there may be. -/
def manyP (k : Int) : Int := if k = 1 then 8 else if k = 2 then 4 else if k = 3 then 4 else if k = 4 then 1 else if k = 5 then 6 else if k = 6 then 1 else 0
theorem kinds (k : Int) : k = 1 ∨ k = 2 ∨ k = 3 ∨ k = 4 ∨ k = 5 ∨ k = 6 ∨ ((k == 1) = false ∧ (k == 2) = false ∧ (k == 3) = false ∧ (k == 4) = false ∧ (k == 5) = false ∧ (k == 6) = false ∧ manyP k = 0) := by
  by_cases h1 : k = 1
  · exact .inl h1
  by_cases h2 : k = 2
  · exact .inr (.inl h2)
  by_cases h3 : k = 3
  · exact .inr (.inr (.inl h3))
  by_cases h4 : k = 4
  · exact .inr (.inr (.inr (.inl h4)))
  by_cases h5 : k = 5
  · exact .inr (.inr (.inr (.inr (.inl h5))))
  by_cases h6 : k = 6
  · exact .inr (.inr (.inr (.inr (.inr (.inl h6)))))
  · exact .inr (.inr (.inr (.inr (.inr (.inr ⟨by simpa using h1, by simpa using h2, by simpa using h3, by simpa using h4, by simpa using h5, by simpa using h6, by simp [manyP, h1, h2, h3, h4, h5, h6]⟩)))))
theorem many_any (k : Int) (w : World) : Calls Try.prog 68 #[.int .i64 k] w fun e w' => e = .returned (.int .i64 (manyP k)) ∧ w' = w := by
  rcases kinds k with rfl | rfl | rfl | rfl | rfl | rfl | ⟨h1, h2, h3, h4, h5, h6, h7⟩
  case inr.inr.inr.inr.inr.inr =>
    have hH : Hid (manyP k = 0) := h7
    clear h7
    go_enter Try.func68, Try.ntmps68
    go_wp2
    go_ret
    exact ⟨by rw [hH.out]; rfl, rfl⟩
  all_goals
    go_enter Try.func68, Try.ntmps68
    go_wp2
    go_ret
    exact ⟨rfl, rfl⟩
theorem few_any (k : Int) (w : World) : Calls Try.prog 74 #[.int .i64 k] w fun e w' => e = .returned (.int .i64 (manyP k)) ∧ w' = w := by
  rcases kinds k with rfl | rfl | rfl | rfl | rfl | rfl | ⟨h1, h2, h3, h4, h5, h6, h7⟩
  case inr.inr.inr.inr.inr.inr =>
    have hH : Hid (manyP k = 0) := h7
    clear h7
    go_enter Try.func74, Try.ntmps74
    go_wp2
    go_ret
    exact ⟨by rw [hH.out]; rfl, rfl⟩
  all_goals
    go_enter Try.func74, Try.ntmps74
    go_wp2
    go_ret
    exact ⟨rfl, rfl⟩
/-- The order of two numbers. -/
def cmpP (a b : Int) : Int := if a < b then -1 else if b < a then 1 else 0
theorem nan_any (a : Int) (w : World) : Calls Try.prog 78 #[.int .i64 a] w fun e w' => e = .returned (.bool false) ∧ w' = w := by
  go_enter Try.func78, Try.ntmps78
  go_wp2
  go_ret
  exact ⟨ret_b (by simp), rfl⟩
theorem cmp_any (a b : Int) (w : World) : Calls Try.prog 76 #[.int .i64 a, .int .i64 b] w fun e w' => e = .returned (.int .i64 (cmpP a b)) ∧ w' = w := by
  have c := fun x wx => nan_any x wx
  by_cases h1 : a < b
  · have hH : Hid (cmpP a b = -1) := by show _ = _; simp [cmpP, h1]
    go_enter Try.func76, Try.ntmps76
    go_wp2_with (go_at_call 78; refine (c _ _).mono ?_; rintro e w' ⟨rfl, rfl⟩)
    go_ret
    exact ⟨by rw [hH.out]; rfl, rfl⟩
  · by_cases h2 : b < a
    · have hH : Hid (cmpP a b = 1) := by show _ = _; simp [cmpP, h1, h2]
      go_enter Try.func76, Try.ntmps76
      go_wp2_with (go_at_call 78; refine (c _ _).mono ?_; rintro e w' ⟨rfl, rfl⟩)
      go_ret
      exact ⟨by rw [hH.out]; rfl, rfl⟩
    · have hH : Hid (cmpP a b = 0) := by show _ = _; simp [cmpP, h1, h2]
      go_enter Try.func76, Try.ntmps76
      go_wp2_with (go_at_call 78; refine (c _ _).mono ?_; rintro e w' ⟨rfl, rfl⟩)
      go_ret
      exact ⟨by rw [hH.out]; rfl, rfl⟩
/-- The first of two that is not nought. -/
def orP (c d : Int) : Int := if c = 0 then d else c
theorem or_any (c d : Int) (g : Nat) (w : World) (h0 : w.cell? ⟨g, 0, none⟩ = some (.int .i64 c)) (h1 : w.cell? ⟨g, 1, none⟩ = some (.int .i64 d)) : Calls Try.prog 75 #[.slice (some ⟨g, 0, none⟩) 2 2] w fun e w' => e = .returned (.int .i64 (orP c d)) ∧ w' = w := by
  go_enter Try.func75, Try.ntmps75
  go_wp2
  go_loopw [8] (fun u wr => (u = .int .i64 0 ∨ u = .int .i64 1 ∧ c = 0 ∨ u = .int .i64 2 ∧ c = 0 ∧ d = 0) ∧ wr = w) (fun u _ => 2 - (intOf u).toNat)
  case atStart => exact ⟨.inl rfl, rfl⟩
  case round =>
    obtain ⟨hr, rfl⟩ := hrel
    rcases hr with rfl | ⟨rfl, rfl⟩ | ⟨rfl, rfl, rfl⟩
    · by_cases hc : c = 0
      · subst hc
        go_wp2
        go_roundw
        case rel => exact ⟨.inr (.inl ⟨rfl, by first | rfl | trivial⟩), by first | rfl | trivial⟩
        case measure => simp [intOf]
      · have hb : (c == 0) = false := by simpa using hc
        have hH : Hid (orP c d = c) := by show _ = _; simp [orP, hc]
        clear hc
        go_wp2
        go_ret
        exact ⟨by rw [hH.out]; rfl, rfl⟩
    · by_cases hc : d = 0
      · subst hc
        go_wp2
        go_roundw
        case rel => exact ⟨.inr (.inr ⟨rfl, by first | rfl | trivial | exact ⟨trivial, trivial⟩ | simp⟩), by first | rfl | trivial⟩
        case measure => simp [intOf]
      · have hb : (d == 0) = false := by simpa using hc
        clear hc
        go_wp2
        go_ret
        exact ⟨rfl, rfl⟩
    · go_wp2
      go_ret
      exact ⟨rfl, rfl⟩
end Go.Proofs.Ytklpifammbnldaa.pg
