/- The document's own Join, Meet, Le, Cmp; Tick, by both; what is wrong with two clocks. -/
import Derived.Test.YtklpifammbnldaaM16
namespace Go.Proofs.Ytklpifammbnldaa.pg
open Go.ChangeShapes Go.WideShapes Go.ChangeAt Go.RowKit
set_option linter.unusedVariables false
set_option linter.unusedSimpArgs false
set_option maxRecDepth 100000
attribute [local go_sem ↓] Go.wp_at_zero Go.wp_at_succ
end Go.Proofs.Ytklpifammbnldaa.pg
/- The document's own Le and Cmp; Tick, by both; what is wrong with two clocks. -/
namespace Go.Proofs.Ytklpifammbnldaa.pg
open Go.ChangeShapes Go.WideShapes Go.ChangeAt Go.RowKit
set_option linter.unusedVariables false
set_option linter.unusedSimpArgs false
set_option maxRecDepth 100000
attribute [local go_sem ↓] Go.wp_at_zero Go.wp_at_succ
/-- The first k numbers are not above. -/
def leTo (x y : Ck) (k : Nat) : Prop := ∀ i m n, i < k → x.list[i]? = some m → y.list[i]? = some n → m ≤ n
theorem leTo_six (x y : Ck) (h : leTo x y 6) : leK x y = true := by
  rw [leK_iff]
  exact ⟨h 0 _ _ (by omega) rfl rfl, h 1 _ _ (by omega) rfl rfl, h 2 _ _ (by omega) rfl rfl, h 3 _ _ (by omega) rfl rfl, h 4 _ _ (by omega) rfl rfl, h 5 _ _ (by omega) rfl rfl⟩
theorem le_not {x y : Ck} {k : Nat} {m n : Int} (hm : x.list[k]? = some m) (hn : y.list[k]? = some n) (h : n < m) : leK x y = false := by
  rw [Bool.eq_false_iff]
  intro q
  rw [leK_iff] at q
  match k, hm, hn with
  | 0, hm, hn => simp [Ck.list] at hm hn; omega
  | 1, hm, hn => simp [Ck.list] at hm hn; omega
  | 2, hm, hn => simp [Ck.list] at hm hn; omega
  | 3, hm, hn => simp [Ck.list] at hm hn; omega
  | 4, hm, hn => simp [Ck.list] at hm hn; omega
  | 5, hm, hn => simp [Ck.list] at hm hn; omega
  | k + 6, hm, hn => simp [Ck.list] at hm
theorem leTo_more {x y : Ck} {k : Nat} {m n : Int} (h : leTo x y k) (hm : x.list[k]? = some m) (hn : y.list[k]? = some n) (hmn : m ≤ n) : leTo x y (k + 1) := by
  intro i a b hi ha hb
  by_cases e : i = k
  · subst e
    rw [hm] at ha; rw [hn] at hb
    cases ha; cases hb
    exact hmn
  · exact h i a b (by omega) ha hb
end Go.Proofs.Ytklpifammbnldaa.pg
/- The document's own Cmp; Tick, by both; what is wrong with two clocks. -/
namespace Go.Proofs.Ytklpifammbnldaa.pg
open Go.ChangeShapes Go.WideShapes Go.ChangeAt Go.RowKit
set_option linter.unusedVariables false
set_option linter.unusedSimpArgs false
set_option maxRecDepth 100000
attribute [local go_sem ↓] Go.wp_at_zero Go.wp_at_succ
/-- A clock one step later, or why not. -/
def tickP (x : Ck) (g : Int) (R : Ck) (c : Int) : Prop := (¬ (x.ok ∧ 0 ≤ g ∧ g < 6) ∧ R = zeroK ∧ c = 1) ∨ (x.ok ∧ ∃ k : Nat, k < 6 ∧ g = k ∧ ∃ n, x.list[k]? = some n ∧ ((n = 1073741824 ∧ R = zeroK ∧ c = 2) ∨ (n ≠ 1073741824 ∧ R = x.put k (n + 1) ∧ c = 0)))
theorem tick_some (x : Ck) (g : Int) : ∃ R c, tickP x g R c := by
  by_cases h : x.ok ∧ 0 ≤ g ∧ g < 6
  · obtain ⟨n, hn, _⟩ := get_lt x.list g.toNat (by rw [Ck.list_len]; omega)
    by_cases e : n = 1073741824
    · exact ⟨zeroK, 2, .inr ⟨h.1, g.toNat, by omega, by omega, n, hn, .inl ⟨e, rfl, rfl⟩⟩⟩
    · exact ⟨x.put g.toNat (n + 1), 0, .inr ⟨h.1, g.toNat, by omega, by omega, n, hn, .inr ⟨e, rfl, rfl⟩⟩⟩
  · exact ⟨zeroK, 1, .inl ⟨h, rfl, rfl⟩⟩
theorem ok_at {x : Ck} (h : x.ok) {k : Nat} {n : Int} (hn : x.list[k]? = some n) : 0 ≤ n ∧ n ≤ 1073741824 := h n (List.mem_of_getElem? hn)
end Go.Proofs.Ytklpifammbnldaa.pg
