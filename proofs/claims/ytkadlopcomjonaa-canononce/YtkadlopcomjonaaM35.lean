/- The document's own Closed and Cut. -/
import Derived.Test.YtkadlopcomjonaaM34
import Derived.Test.YtkadlopcomjonaaM30
import Derived.Test.YtkadlopcomjonaaM31
import Derived.Test.YtkadlopcomjonaaM27
namespace Go.Proofs.Ytkadlopcomjonaa.pg
open Go.ChangeShapes Go.WideShapes Go.ChangeAt Go.RowKit Go.Shelf
set_option linter.unusedVariables false
set_option linter.unusedSimpArgs false
set_option maxRecDepth 100000
attribute [local go_sem ↓] Go.wp_at_zero Go.wp_at_succ
def inTo (ps : List Int) (B : Nat → Nat → Bool) (i k : Nat) : Bool := (ps.take k).any fun x => ((i : Int) == x) || B i x.toNat
theorem inTo_more {ps : List Int} {B : Nat → Nat → Bool} {i k a : Nat} (h : ps[k]? = some (a : Int)) : inTo ps B i (k + 1) = (inTo ps B i k || (((i : Int) == (a : Int)) || B i a)) := by
  unfold inTo
  rw [take_one ps k _ h, List.any_append]
  simp
theorem plR_c {n : Nat} {ps : List Int} {al : Bool} {c : Int} (h : plR n ps al c) : c = 2 ∨ c = 1 ∨ c = 0 := by
  rcases h with ⟨_, h⟩ | ⟨_, _, h⟩ | ⟨_, _, _, h⟩ <;> simp [h]
end Go.Proofs.Ytkadlopcomjonaa.pg
/- The document's own Cut and Linear; Linear of a list that is no order. -/
namespace Go.Proofs.Ytkadlopcomjonaa.pg
open Go.ChangeShapes Go.WideShapes Go.ChangeAt Go.RowKit Go.Shelf
set_option linter.unusedVariables false
set_option linter.unusedSimpArgs false
set_option maxRecDepth 100000
attribute [local go_sem ↓] Go.wp_at_zero Go.wp_at_succ
def anyJ (ps : List Int) (y : Int) (k : Nat) : Bool := (ps.take k).any fun x => y == x
theorem anyJ_more {ps : List Int} {x y : Int} {k : Nat} (h : ps[k]? = some x) : anyJ ps y (k + 1) = (anyJ ps y k || y == x) := by
  unfold anyJ
  rw [take_one ps k x h, List.any_append]
  simp
/-- Nothing that happens before stands behind. -/
def upP (ps : List Int) (B : Nat → Nat → Bool) (i k : Nat) : Prop := B (ps.getD i 0).toNat (ps.getD k 0).toNat = false
set_option maxHeartbeats 1000000 in
theorem linear_bad (l : List Ev) (la : Option Addr) (lc : Nat) (ps : List Int) (pa : Option Addr) (pc : Nat) (w : World) (hl : Rows w 26 la lc (l.map Ev.cells)) (hp : Rows w 1 pa pc (ps.map chCells)) (hlen : l.length ≤ 256) (hrt : ∀ x ∈ l, rightP x) (hps : ps.length ≤ 256) (hin : ∀ p ∈ ps, 0 ≤ p ∧ p < l.length) (hn : ps.length ≠ l.length ∨ (lst (fOf ps) 256).length ≠ l.length) :
    Calls Try.prog 31 #[.slice la l.length lc, .slice pa ps.length pc] w fun e w' => e = .returned (.tuple #[.bool false, .int .i64 1]) ∧ Below w.heap.size w w' := by
  have c1 := look_any l la lc ps pa pc w hl hp hlen hrt hps hin
  have hpI := rows_len hp
  have hin2 : ∀ p ∈ ps, 0 ≤ p ∧ p < 256 := fun p hp => by have := hin p hp; omega
  have hpH : Hid (Rows w 1 pa pc (ps.map chCells)) := hp
  have hlI2 : (l.length : Int) ≤ 256 := by omega
  obtain ⟨G, hG⟩ : ∃ G, boolRow 256 (fOf ps) = G := ⟨_, rfl⟩
  obtain ⟨q, hq⟩ : ∃ q, (lst (fOf ps) 256).length = q := ⟨_, rfl⟩
  have cO : ∀ wx, Below w.heap.size w wx → Calls Try.prog 59 #[.slice pa ps.length pc] wx fun e w' => e = .returned (.agg G) ∧ Below wx.heap.size wx w' := fun wx hb => by rw [← hG]; exact setOf_any ps pa pc wx (hpH.out.later hb) hin2
  have cL : ∀ wx, Calls Try.prog 60 #[.agg G] wx fun e w' => ∃ va vc, e = .returned (.slice va q vc) ∧ Below wx.heap.size wx w' := fun wx => by
    rw [← hG]
    exact (list_any _ wx).mono (by rintro e w' ⟨va, vc, rfl, h⟩; exact ⟨va, vc, by rw [hq], h.be⟩)
  rw [hq] at hn
  clear hl hp hin hrt hG hin2 hq
  by_cases h1 : ps.length = l.length
  · have hne1 : ((ps.length : Int) != (l.length : Int)) = false := by rw [h1]; simp
    have hne2 : ((q : Int) != (l.length : Int)) = true := by
      rcases hn with h | h
      · exact absurd h1 h
      · simp; omega
    clear hn h1
    go_enter Try.func31, Try.ntmps31
    go_wp2_with (first
      | (go_at_call 58; (refine c1.mono ?_); rintro e w1 ⟨ca, cc, da, dc, rfl, oc', oe', hb'⟩; (have rB : Hid (RelB w _ l la lc w1.heap.size ca cc da dc) := relB_new (Nat.le_refl _) oc' oe' hb'); clear oc' oe' hb' c1)
      | (refine wpList_store_new rfl 104 _ _ rfl rfl _ _ rfl (by kernel_rfl) rfl (one3 _ _ _ _ _ _ _ _ _) ?_)
      | (go_at_call 59; (refine (cO _ rB.out.b).mono ?_); rintro e w2 ⟨rfl, hb2⟩; (have r2 : Hid (Below w.heap.size w w2) := bthen rB.out.b hb2); clear hb2 cO rB)
      | (go_at_call 60; (refine (cL _).mono ?_); rintro e w3 ⟨va, vc, rfl, hb3⟩; (have r3 : Hid (Below w.heap.size w w3) := bthen r2.out hb3); clear hb3 cL r2))
    go_ret2
    exact ⟨rfl, r3.out⟩
  · have hne1 : ((ps.length : Int) != (l.length : Int)) = true := by simp; omega
    clear hn h1 cO cL
    go_enter Try.func31, Try.ntmps31
    go_wp2_with (first
      | (go_at_call 58; (refine c1.mono ?_); rintro e w1 ⟨ca, cc, da, dc, rfl, oc', oe', hb'⟩; (have rB : Hid (RelB w _ l la lc w1.heap.size ca cc da dc) := relB_new (Nat.le_refl _) oc' oe' hb'); clear oc' oe' hb' c1)
      | (refine wpList_store_new rfl 104 _ _ rfl rfl _ _ rfl (by kernel_rfl) rfl (one3 _ _ _ _ _ _ _ _ _) ?_))
    go_ret2
    exact ⟨rfl, rB.out.b⟩
end Go.Proofs.Ytkadlopcomjonaa.pg
/- The document's own Past. -/
namespace Go.Proofs.Ytkadlopcomjonaa.pg
open Go.ChangeShapes Go.WideShapes Go.ChangeAt Go.RowKit Go.Shelf
set_option linter.unusedVariables false
set_option linter.unusedSimpArgs false
set_option maxRecDepth 100000
attribute [local go_sem ↓] Go.wp_at_zero Go.wp_at_succ
end Go.Proofs.Ytkadlopcomjonaa.pg
