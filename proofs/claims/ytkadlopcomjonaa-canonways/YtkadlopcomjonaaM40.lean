/- One order alone: CanonWays, walked. -/
import Derived.Test.YtkadlopcomjonaaM39
import Derived.Test.YtkadlopcomjonaaM26
namespace Go.Proofs.Ytkadlopcomjonaa.pg
open Go.ChangeShapes Go.WideShapes Go.ChangeAt Go.RowKit Go.Shelf
set_option linter.unusedVariables false
set_option linter.unusedSimpArgs false
set_option maxRecDepth 100000
set_option maxHeartbeats 1000000 in
theorem cways_bad (l : List Ev) (la : Option Addr) (lc : Nat) (w : World) (hl : Rows w 26 la lc (l.map Ev.cells)) (c : Int) (hc : checkP l c) (h0 : c = 2 ∨ c = 7) :
    Calls Try.prog 9 #[.slice la l.length lc] w fun e w' => e = .returned (.bool true) ∧ Below w.heap.size w w' := by
  have c1 := count_bad l la lc 2 w hl c hc h0
  have c2 : ∀ wx, Below w.heap.size w wx → Calls Try.prog 21 #[.slice la l.length lc] wx _ := fun wx hb => levels_bad l la lc wx (hl.later hb) c hc h0
  have c3 : ∀ wx, Below w.heap.size w wx → Calls Try.prog 13 #[.slice la l.length lc] wx _ := fun wx hb => rcheck_any l la lc wx (hl.later hb) c hc
  have cS : ∀ wx, Calls Try.prog 26 #[] wx fun e w' => e = .returned (.bool true) ∧ Below wx.heap.size wx w' := fun wx => small_any wx
  have d : (c != 0) = true := by rcases h0 with rfl | rfl <;> rfl
  clear hl hc h0
  go_enter Try.func9, Try.ntmps9
  go_wp2_with (first
    | (go_at_call 29; (with_reducible refine c1.mono ?_); rintro e w1 ⟨rfl, hb1⟩; (have hB : Hid (Below w.heap.size w w1) := hb1); clear hb1 c1)
    | (go_at_call 21; (refine (c2 _ hB.out).mono ?_); rintro e w2 ⟨rfl, hb2⟩; (have hB : Hid (Below w.heap.size w w2) := bthen hB.out hb2); clear hb2 c2)
    | (go_at_call 13; (refine (c3 _ hB.out).mono ?_); rintro e w2 ⟨rfl, hb2⟩; (have hB : Hid (Below w.heap.size w w2) := bthen hB.out hb2); clear hb2 c3)
    | (go_at_call 26; (with_reducible refine (cS _).mono ?_); rintro e w3 ⟨rfl, hb3⟩; (have hB : Hid (Below w.heap.size w w3) := bthen hB.out hb3); clear hb3 cS))
  go_ret
  exact ⟨rfl, hB.out⟩
set_option maxHeartbeats 1000000 in
theorem cways_told (n : Nat) (la : Option Addr) (lc : Nat) (w : World) (r : Int) (hr : r = 1 ∨ r = 2)
    (c1 : Calls Try.prog 29 #[.slice la n lc, .int .i64 2] w fun e w' => e = .returned (.tuple #[.int .i64 r, .int .i64 0]) ∧ Below w.heap.size w w')
    (c2 : ∀ wx, Below w.heap.size w wx → Calls Try.prog 21 #[.slice la n lc] wx fun e w' => ∃ H A : Nat, e = .returned (.tuple #[.slice (some ⟨A, 0, none⟩) H H, .int .i64 0]) ∧ (r = 1 ↔ H = n) ∧ Below wx.heap.size wx w')
    (c3 : ∀ wx, Below w.heap.size w wx → Calls Try.prog 29 #[.slice la n lc, .int .i64 1] wx fun e w' => e = .returned (.tuple #[.int .i64 1, .int .i64 0]) ∧ Below wx.heap.size wx w') :
    Calls Try.prog 9 #[.slice la n lc] w fun e w' => e = .returned (.bool true) ∧ Below w.heap.size w w' := by
  go_enter Try.func9, Try.ntmps9
  go_upto_region 5 with (first
    | (go_at_call 29; (with_reducible refine c1.mono ?_); rintro e w1 ⟨rfl, hb1⟩; (have hB : Hid (Below w.heap.size w w1) := hb1); clear hb1 c1)
    | (go_at_call 21; (refine (c2 _ hB.out).mono ?_); rintro e w2 ⟨H, A, rfl, hH, hb2⟩; (have hB2 : Hid (Below w.heap.size w w2) := bthen hB.out hb2); clear hb2 c2))
  rcases hr with rfl | rfl
  · have e := hH.mp rfl
    subst e
    have d : ((H : Int) == (H : Int)) = true := by simp
    go_wp2_with (go_at_call 29; (refine (c3 _ hB2.out).mono ?_); rintro e w3 ⟨rfl, hb3⟩; (have hB3 : Hid (Below w.heap.size w w3) := bthen hB2.out hb3); clear hb3 c3)
    go_ret
    exact ⟨rfl, hB3.out⟩
  · have e : ¬ H = n := fun q => by have := hH.mpr q; omega
    have d : ((H : Int) == (n : Int)) = false := by simp; omega
    clear hH
    go_wp2_with (go_at_call 29; (refine (c3 _ hB2.out).mono ?_); rintro e w3 ⟨rfl, hb3⟩; (have hB3 : Hid (Below w.heap.size w w3) := bthen hB2.out hb3); clear hb3 c3)
    go_ret
    exact ⟨rfl, hB3.out⟩
theorem cways_any (l : List Ev) (la : Option Addr) (lc : Nat) (w : World) (hl : EvsIn w la lc l) : Calls Try.prog 9 #[.slice la l.length lc] w fun e w' => e = .returned (.bool true) ∧ Below w.heap.size w w' := by
  obtain ⟨c, hc⟩ := check_ex l
  by_cases h0 : c = 2 ∨ c = 7
  · exact cways_bad l la lc w hl.1 c hc h0
  · have hz : l.length ≤ 256 ∧ (∀ x ∈ l, rightP x) ∧ c = 0 := by
      rcases hc with ⟨_, q⟩ | ⟨_, _, q⟩ | q
      · exact absurd (.inl q) h0
      · exact absurd (.inr q) h0
      · exact q
    obtain ⟨hlen, hrt, rfl⟩ := hz
    obtain ⟨B, hB⟩ := tells_some (dpf l)
    have hone : ∀ {h : Nat → Int} {H : Nat}, LvT l B h H → (allW B l = 1 ↔ H = l.length) ∧ 1 ≤ allW B l := fun q => by
      unfold allW
      rw [pw_empty hB hrt]
      exact ways_one hB q.1 q.2
    have h1 : 1 ≤ allW B l := by
      unfold allW
      rw [pw_empty hB hrt]
      exact preS_one (by rw [cnt_none]; omega)
    refine cways_told l.length la lc w (min (allW B l : Int) 2) (by rw [Int.min_def]; split <;> omega) ?_ ?_ ?_
    · exact (count_ok l la lc 2 w hl.1 hlen hrt hB (by omega) (by omega)).mono fun e w' ⟨r, he, hr, hb⟩ => ⟨by rw [he, hr], hb⟩
    · intro wx hb
      refine (levels_ok l la lc wx (hl.1.later hb) hlen hrt hB).mono fun e w' ⟨h, H, A, he, hq⟩ => ⟨H, A, he, ?_, hq.out.2.2⟩
      rw [← (hone hq.out.1).1, Int.min_def]
      split <;> omega
    · intro wx hb
      refine (count_ok l la lc 1 wx (hl.1.later hb) hlen hrt hB (by omega) (by omega)).mono fun e w' ⟨r, he, hr, hb⟩ => ⟨?_, hb⟩
      have : r = 1 := by rw [hr, Int.min_def]; split <;> omega
      rw [he, this]
end Go.Proofs.Ytkadlopcomjonaa.pg

