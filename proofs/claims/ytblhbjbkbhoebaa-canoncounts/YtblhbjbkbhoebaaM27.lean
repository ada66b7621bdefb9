/- How many orders there are: CanonCounts, walked. -/
import Derived.Test.YtblhbjbkbhoebaaM26
namespace Go.Proofs.Ytblhbjbkbhoebaa.pg
open Go.ChangeShapes Go.WideShapes Go.ChangeAt Go.RowKit Go.Shelf
set_option linter.unusedVariables false
set_option linter.unusedSimpArgs false
set_option maxRecDepth 100000
set_option maxHeartbeats 1000000 in
theorem counts_told (l : List Ev) (la : Option Addr) (lc : Nat) (most r c : Int) (w : World) (c1 : Calls Try.prog 29 #[.slice la l.length lc, .int .i64 most] w fun e w' => e = .returned (.tuple #[.int .i64 r, .int .i64 c]) ∧ Below w.heap.size w w')
    (c2 : ∀ wx, Below w.heap.size w wx → Calls Try.prog 30 #[.slice la l.length lc, .int .i64 most] wx fun e w' => e = .returned (.tuple #[.int .i64 r, .int .i64 c]) ∧ Below wx.heap.size wx w') :
    Calls Try.prog 6 #[.slice la l.length lc, .int .i64 most] w fun e w' => e = .returned (.bool true) ∧ Below w.heap.size w w' := by
  have cS : ∀ wx, Calls Try.prog 26 #[] wx fun e w' => e = .returned (.bool true) ∧ Below wx.heap.size wx w' := fun wx => small_any wx
  go_enter Try.func6, Try.ntmps6
  go_wp2_with (first
    | (go_at_call 29; (with_reducible refine c1.mono ?_); rintro e w1 ⟨rfl, hb1⟩; (have hB : Hid (Below w.heap.size w w1) := hb1); clear hb1 c1)
    | (go_at_call 30; (with_reducible refine (c2 _ hB.out).mono ?_); rintro e w2 ⟨rfl, hb2⟩; (have hB : Hid (Below w.heap.size w w2) := bthen hB.out hb2); clear hb2 c2)
    | (go_at_call 26; (with_reducible refine (cS _).mono ?_); rintro e w3 ⟨rfl, hb3⟩; (have hB : Hid (Below w.heap.size w w3) := bthen hB.out hb3); clear hb3 cS))
  go_ret
  exact ⟨rfl, hB.out⟩
theorem counts_any (l : List Ev) (la : Option Addr) (lc : Nat) (most : Int) (w : World) (hl : EvsIn w la lc l) (_ : (Lit.int .i64 most).wf = true) : Calls Try.prog 6 #[.slice la l.length lc, .int .i64 most] w fun e w' => e = .returned (.bool true) ∧ Below w.heap.size w w' := by
  obtain ⟨c, hc⟩ := check_ex l
  by_cases h0 : c = 2 ∨ c = 7
  · exact counts_told l la lc most 0 c w (count_bad l la lc most w hl.1 c hc h0) fun wx hb => rcount_bad l la lc most wx (hl.1.later hb) c hc h0
  · have hz : l.length ≤ 256 ∧ (∀ x ∈ l, rightP x) ∧ c = 0 := by
      rcases hc with ⟨_, q⟩ | ⟨_, _, q⟩ | q
      · exact absurd (.inl q) h0
      · exact absurd (.inr q) h0
      · exact q
    obtain ⟨hlen, hrt, rfl⟩ := hz
    by_cases hm : 1 ≤ most ∧ most ≤ 10000
    · obtain ⟨B, hB⟩ := tells_some (dpf l)
      exact counts_told l la lc most (min (allW B l : Int) most) 0 w ((count_ok l la lc most w hl.1 hlen hrt hB hm.1 hm.2).mono fun e w' ⟨r, he, hr, hb⟩ => ⟨by rw [he, hr], hb⟩) fun wx hb => (rcount_ok l la lc most wx (hl.1.later hb) hlen hrt hc hB hm.1 hm.2).mono fun e w' ⟨r, he, hr, hb⟩ => ⟨by rw [he, hr], hb⟩
    · exact counts_told l la lc most 0 1 w (count_arg l la lc most w hl.1 hlen hrt hm) fun wx hb => rcount_arg l la lc most wx (hl.1.later hb) hc hm
end Go.Proofs.Ytblhbjbkbhoebaa.pg

