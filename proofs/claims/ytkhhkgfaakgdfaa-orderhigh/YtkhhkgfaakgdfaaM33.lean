/- OrderHigh, of no events; and whatever is asked. -/
import Derived.Test.YtkhhkgfaakgdfaaM32
import Derived.Test.YtkhhkgfaakgdfaaM30
namespace Go.Proofs.Ytkhhkgfaakgdfaa.pg
open Go.ChangeShapes Go.WideShapes Go.ChangeAt Go.RowKit Go.Shelf
set_option linter.unusedVariables false
set_option linter.unusedSimpArgs false
set_option maxRecDepth 100000
attribute [local go_sem ↓] Go.wp_at_zero Go.wp_at_succ
set_option maxHeartbeats 2000000 in
theorem high_nil (la : Option Addr) (lc : Nat) (w : World) (hl : Rows w 26 la lc (([] : List Ev).map Ev.cells)) : Calls Try.prog 8 #[.slice la 0 lc] w fun e w' => e = .returned (.bool true) ∧ Below w.heap.size w w' := by
  have hlH : Hid (Rows w 26 la lc (([] : List Ev).map Ev.cells)) := hl
  have cS : ∀ wx, Calls Try.prog 16 #[] wx fun e w' => e = .returned (.bool true) ∧ Below wx.heap.size wx w' := fun wx => speaks12_any wx
  have cK : ∀ wx, Below w.heap.size w wx → Calls Try.prog 15 #[.slice la 0 lc] wx fun e w' => e = .returned (.int .i64 0) ∧ Below wx.heap.size wx w' := fun wx hb => rcheck_any [] la lc wx (hlH.out.later hb) 0 (.inr (.inr ⟨by simp, by simp, rfl⟩))
  have cC : Calls Try.prog 14 #[.slice la 0 lc] w fun e w' => e = .returned (.tuple #[.int .i64 0, .int .i64 0]) ∧ Below w.heap.size w w' := height_ok [] la lc w hl (by simp) (by simp)
  have cE : ∀ wx, Below w.heap.size w wx → Calls Try.prog 12 #[.slice la 0 lc] wx fun e w' => ∃ da dc, e = .returned (.tuple #[.slice da 0 dc, .int .i64 0]) ∧ Below wx.heap.size wx w' := fun wx hb => (edges_ok [] la lc wx (hlH.out.later hb) (by simp) (by simp)).mono fun e w' ⟨da, dc, D, he, hp, _, _, hb⟩ => by
    have : D = [] := hp.eq_nil
    subst this
    exact ⟨da, dc, he, hb⟩
  obtain ⟨iN, hiN, hzN, hsN, hbN⟩ := info_q infoN_u
  have iNH : Hid (Try.prog.info? 3 = some iN ∧ iN.zero = some (.int .i64 0) ∧ iN.size = 1 ∧ iN.bytes * 0 ≤ 281474976710656) := ⟨hiN, hzN, hsN, by omega⟩
  clear hl hiN hzN hsN hbN
  go_enter Try.func8, Try.ntmps8
  go_wp2_with (first
    | (go_at_call 14; (with_reducible refine cC.mono ?_); rintro e w1 ⟨rfl, hb1⟩; (have hB : Hid (Below w.heap.size w w1) := hb1); clear hb1 cC)
    | (go_at_call 15; (with_reducible refine (cK _ hB.out).mono ?_); rintro e w2 ⟨rfl, hb2⟩; (have hB : Hid (Below w.heap.size w w2) := bthen hB.out hb2); clear hb2 cK)
    | (go_at_call 12; (with_reducible refine (cE _ hB.out).mono ?_); rintro e w3 ⟨da, dc, rfl, q4⟩; (have hB3 : Hid (Below w.heap.size w w3) := bthen hB.out q4); clear q4 cE)
    | (refine wpList_mk _ rfl _ _ 30 rfl 3 iN (.int .i64 0) Try.underlying30 iNH.out.1 iNH.out.2.1 rfl iNH.out.2.2.1 0 rfl rfl iNH.out.2.2.2 (by omega) ?_; intro W hwh hbW hsW))
  have hA : w3.heap.size + 1 = (w3.alloc (.cells #[.int .i64 0, .int .i64 0, .int .i64 0, .int .i64 0, .int .i64 0, .int .i64 0] 39)).heap.size := (World.size_alloc _ _).symm
  have s0 : Hid (OhSt w3 W (w3.heap.size + 1) w3.heap.size (hghTo (fun _ => 0) 0 0) (ownTo (gof []) 0)) := by
    refine ⟨by rw [hA, hwh, hghTo_zero], (hbW.block _ (by rw [World.size_alloc]; omega)).trans (heap_alloc_new _ _), bthen (boxed _ _) hbW, by omega, by omega, Nat.le_refl _⟩
  generalize w3.heap.size + 1 = A at *
  clear hwh hbW hsW hA
  go_loopw [9, 10] (fun m u wr => u = .int .i64 0 ∧ m = .int .i64 0 ∧ wr = W) (fun _ _ _ => 0)
  case atStart => exact ⟨rfl, rfl, rfl⟩
  case round =>
    obtain ⟨rfl, rfl, rfl⟩ := hrel
    go_wp2_with fail
    go_loopw [12] (fun u wq => ∃ k : Nat, k ≤ 6 ∧ u = .int .i64 k ∧ wq = wr) (fun u _ => 6 - (intOf u).toNat)
    case atStart => exact ⟨0, by omega, rfl, rfl⟩
    case round =>
      obtain ⟨k, hk, rfl, rfl⟩ := hrel
      by_cases hk6 : k < 6
      · have hkI : (k : Int) < 6 := by omega
        have cO : wr.cell? ⟨w3.heap.size, k, none⟩ = some (.int .i64 0) := by
          have := (s0.out.cellO (j := k) (by simp [ownTo]; exact hk6)).1
          rw [ownTo_get hk6] at this
          exact this
        have x6 := ix_six w3.heap.size k hk6
        go_wp2
        go_roundw
        case rel => exact ⟨k + 1, by omega, by go_num, trivial⟩
        case measure => simp [intOf]; omega
      · have hk2 : k = 6 := by omega
        subst hk2
        go_wp2_with (go_at_call 16; (with_reducible refine (cS _).mono ?_); rintro e w9 ⟨rfl, hb9⟩; (have hB9 : Hid (Below w.heap.size w w9) := bthen (bthen hB3.out s0.out.b) hb9))
        go_ret
        exact ⟨rfl, hB9.out⟩
theorem high_any (l : List Ev) (la : Option Addr) (lc : Nat) (w : World) (hl : EvsIn w la lc l) : Calls Try.prog 8 #[.slice la l.length lc] w fun e w' => e = .returned (.bool true) ∧ Below w.heap.size w w' := by
  obtain ⟨c, hc⟩ := check_ex l
  by_cases h0 : c = 0
  · subst h0
    obtain ⟨hlen, hrt⟩ : l.length ≤ 256 ∧ ∀ x ∈ l, rightP x := by rcases hc with ⟨_, q⟩ | ⟨_, _, q⟩ | ⟨a, b, _⟩ <;> first | exact ⟨a, b⟩ | omega
    by_cases hn : 0 < l.length
    · exact high_in l la lc w hl.1 hlen hrt hn
    · have : l = [] := List.length_eq_zero_iff.mp (by omega)
      subst this
      exact high_nil la lc w hl.1
  · have h7 : c = 2 ∨ c = 7 := by rcases hc with ⟨_, q⟩ | ⟨_, _, q⟩ | ⟨_, _, q⟩ <;> omega
    exact high_bad l la lc w hl.1 c hc h7
end Go.Proofs.Ytkhhkgfaakgdfaa.pg

