/- Events in another order: CanonApplies, walked. -/
import Derived.Test.YtblhbjbkbhoebaaM36
namespace Go.Proofs.Ytblhbjbkbhoebaa.pg
open Go.ChangeShapes Go.WideShapes Go.ChangeAt Go.RowKit Go.Shelf
set_option linter.unusedVariables false
set_option linter.unusedSimpArgs false
set_option maxRecDepth 100000
abbrev IntsIn (w : World) (a : Option Addr) (cap : Nat) (l : List Int) : Prop := Rows w 1 a cap (l.map chCells)
section
variable {H : Type} {enc : TypeId × Value → H} {w : World} {base : Nat} {spare : Nat → Bool} {held : Bool}
theorem ints_sz {n : Nat} {a : Option Addr} {len cap : Nat} {y : DataW H × List MemPlace} (h : DataW.trod enc Try.prog w base spare held n 39 [.slice a len cap] = some y) (hs : Sz Try.prog 39 y.1) : ∃ l : List Int, l.length = len ∧ IntsIn w a cap l := by
  obtain ⟨l, rfl, h1, h2, h3⟩ := rows_sz (k := 1) 0 chCells I64 Try.underlying39 (by kernel_rfl) (by omega) (fun n cs y hl h _ => by
    match cs, hl, h with
    | [c0], _, h =>
      obtain ⟨z, rfl, b⟩ := int_in Try.underlying3 h
      exact ⟨z, rfl, b⟩) h hs
  exact ⟨l, rfl, h1⟩
end
theorem rows_nil26 (w : World) : Rows w 26 none 0 (([] : List Ev).map Ev.cells) := own_rows (own_nil_q w 0 0 26) (by simp)
set_option maxHeartbeats 1000000 in
theorem apply_err (l : List Ev) (la : Option Addr) (lc : Nat) (y : Value) (w : World) (hl : Rows w 26 la lc (l.map Ev.cells)) (c : Int) (hc : checkP l c) (h0 : c = 2 ∨ c = 7) :
    Calls Try.prog 27 #[.slice la l.length lc, y] w fun e w' => e = .returned (.tuple #[.slice none 0 0, .int .i64 c]) ∧ Below w.heap.size w w' := by
  have c1 := check_any l la lc w hl c hc
  have d : (c != 0) = true := by rcases h0 with rfl | rfl <;> rfl
  clear hl hc h0
  go_enter Try.func27, Try.ntmps27
  go_wp2_with (go_at_call 10; (with_reducible refine c1.mono ?_); rintro e w1 ⟨rfl, hb1⟩; (have hbH : Hid (Below w.heap.size w w1) := hb1); clear hb1)
  go_ret2
  exact ⟨rfl, hbH.out⟩
set_option maxHeartbeats 1000000 in
theorem rapply_err (l : List Ev) (la : Option Addr) (lc : Nat) (y : Value) (w : World) (hl : Rows w 26 la lc (l.map Ev.cells)) (c : Int) (hc : checkP l c) (h0 : c = 2 ∨ c = 7) :
    Calls Try.prog 28 #[.slice la l.length lc, y] w fun e w' => e = .returned (.tuple #[.slice none 0 0, .int .i64 c]) ∧ Below w.heap.size w w' := by
  have c1 := rcheck_any l la lc w hl c hc
  have d : (c != 0) = true := by rcases h0 with rfl | rfl <;> rfl
  clear hl hc h0
  go_enter Try.func28, Try.ntmps28
  go_wp2_with (go_at_call 13; (with_reducible refine c1.mono ?_); rintro e w1 ⟨rfl, hb1⟩; (have hbH : Hid (Below w.heap.size w w1) := hb1); clear hb1)
  go_ret2
  exact ⟨rfl, hbH.out⟩
section
variable (l : List Ev) (la : Option Addr) (lc : Nat) (ps : List Int) (pa : Option Addr) (pc : Nat) (w : World) (hl : Rows w 26 la lc (l.map Ev.cells)) (hp : Rows w 1 pa pc (ps.map chCells)) (hc : checkP l 0) (hlen : l.length ≤ 256) (R : Bool)
include hl hp hc hlen
set_option maxHeartbeats 1000000 in
theorem apply_ok (cK : ∀ wx, Below w.heap.size w wx → Calls Try.prog 52 #[.slice la l.length lc, .slice pa ps.length pc] wx fun e w' => e = .returned (.bool R) ∧ Below wx.heap.size wx w') (hR : R = true → ps.length = l.length ∧ ∀ p ∈ ps, 0 ≤ p ∧ p < (l.length : Int)) :
    Calls Try.prog 27 #[.slice la l.length lc, .slice pa ps.length pc] w fun e w' => ∃ va vc, e = .returned (.tuple #[.slice va (if R then arrE l ps else []).length vc, .int .i64 (if R then 0 else 1)]) ∧ Hid (Rows w' 26 va vc ((if R then arrE l ps else []).map Ev.cells) ∧ Below w.heap.size w w') := by
  have c1 := check_any l la lc w hl 0 hc
  cases R with
  | false =>
    go_enter Try.func27, Try.ntmps27
    go_wp2_with (first
      | (go_at_call 10; (with_reducible refine c1.mono ?_); rintro e w1 ⟨rfl, hb1⟩; (have hbH : Hid (Below w.heap.size w w1) := hb1); clear hb1)
      | (go_at_call 52; (with_reducible refine (cK _ hbH.out).mono ?_); rintro e w2 ⟨rfl, hb2⟩; (have hbH : Hid (Below w.heap.size w w2) := bthen hbH.out hb2); clear hb2))
    go_ret2
    exact ⟨none, 0, rfl, rows_nil26 _, hbH.out⟩
  | true =>
    obtain ⟨h1, hin⟩ := hR rfl
    have cA : ∀ wx, Below w.heap.size w wx → Calls Try.prog 53 #[.slice la l.length lc, .slice pa ps.length pc] wx _ := fun wx hb => arranged_any l la lc ps pa pc wx (hl.later hb) (hp.later hb) (by omega) hin
    have hen : Hid ((arrE l ps).length = ps.length) := by show _ = _; simp [arrE]
    clear hR hin hl hp h1
    go_enter Try.func27, Try.ntmps27
    go_wp2_with (first
      | (go_at_call 10; (with_reducible refine c1.mono ?_); rintro e w1 ⟨rfl, hb1⟩; (have hbH : Hid (Below w.heap.size w w1) := hb1); clear hb1)
      | (go_at_call 52; (with_reducible refine (cK _ hbH.out).mono ?_); rintro e w2 ⟨rfl, hb2⟩; (have hbH : Hid (Below w.heap.size w w2) := bthen hbH.out hb2); clear hb2)
      | (go_at_call 53; (refine (cA _ hbH.out).mono ?_); rintro e w3 ⟨A, rfl, hq⟩; (have hbH : Hid (Below w.heap.size w w3) := bthen hbH.out hq.out.2.2)))
    go_ret2
    refine ⟨some ⟨A, 0, none⟩, ps.length, ?_, hq.out.2.1, hbH.out⟩
    show _ = Ending.returned (.tuple #[.slice (some ⟨A, 0, none⟩) (arrE l ps).length ps.length, .int .i64 0])
    rw [hen.out]
    rfl
set_option maxHeartbeats 1000000 in
theorem rapply_ok (cK : ∀ wx, Below w.heap.size w wx → Calls Try.prog 54 #[.slice la l.length lc, .slice pa ps.length pc] wx fun e w' => e = .returned (.bool R) ∧ Below wx.heap.size wx w') (hR : R = true → ps.length = l.length ∧ ∀ p ∈ ps, 0 ≤ p ∧ p < (l.length : Int)) :
    Calls Try.prog 28 #[.slice la l.length lc, .slice pa ps.length pc] w fun e w' => ∃ va vc, e = .returned (.tuple #[.slice va (if R then arrE l ps else []).length vc, .int .i64 (if R then 0 else 1)]) ∧ Hid (Rows w' 26 va vc ((if R then arrE l ps else []).map Ev.cells) ∧ Below w.heap.size w w') := by
  have c1 := rcheck_any l la lc w hl 0 hc
  cases R with
  | false =>
    go_enter Try.func28, Try.ntmps28
    go_wp2_with (first
      | (go_at_call 13; (with_reducible refine c1.mono ?_); rintro e w1 ⟨rfl, hb1⟩; (have hbH : Hid (Below w.heap.size w w1) := hb1); clear hb1)
      | (go_at_call 54; (with_reducible refine (cK _ hbH.out).mono ?_); rintro e w2 ⟨rfl, hb2⟩; (have hbH : Hid (Below w.heap.size w w2) := bthen hbH.out hb2); clear hb2))
    go_ret2
    exact ⟨none, 0, rfl, rows_nil26 _, hbH.out⟩
  | true =>
    obtain ⟨h1, hin⟩ := hR rfl
    have cA : ∀ wx, Below w.heap.size w wx → Calls Try.prog 55 #[.slice la l.length lc, .slice pa ps.length pc] wx _ := fun wx hb => laid_any l la lc ps pa pc wx (hl.later hb) (hp.later hb) (by omega) hin
    have hen : Hid ((arrE l ps).length = ps.length) := by show _ = _; simp [arrE]
    clear hR hin hl hp h1
    go_enter Try.func28, Try.ntmps28
    go_wp2_with (first
      | (go_at_call 13; (with_reducible refine c1.mono ?_); rintro e w1 ⟨rfl, hb1⟩; (have hbH : Hid (Below w.heap.size w w1) := hb1); clear hb1)
      | (go_at_call 54; (with_reducible refine (cK _ hbH.out).mono ?_); rintro e w2 ⟨rfl, hb2⟩; (have hbH : Hid (Below w.heap.size w w2) := bthen hbH.out hb2); clear hb2)
      | (go_at_call 55; (refine (cA _ hbH.out).mono ?_); rintro e w3 ⟨va, vc, rfl, hq⟩; (have hbH : Hid (Below w.heap.size w w3) := bthen hbH.out hq.out.2)))
    go_ret2
    refine ⟨va, vc, ?_, hq.out.1, hbH.out⟩
    show _ = Ending.returned (.tuple #[.slice va (arrE l ps).length vc, .int .i64 0])
    rw [hen.out]
    rfl
end
set_option maxHeartbeats 1000000 in
theorem applies_told (x y : Value) (L : List Ev) (hwf : ∀ e ∈ L, e.wf) (c : Int) (w : World) (c1 : Calls Try.prog 27 #[x, y] w fun e w' => ∃ va vc, e = .returned (.tuple #[.slice va L.length vc, .int .i64 c]) ∧ Hid (Rows w' 26 va vc (L.map Ev.cells) ∧ Below w.heap.size w w'))
    (c2 : ∀ wx, Below w.heap.size w wx → Calls Try.prog 28 #[x, y] wx fun e w' => ∃ va vc, e = .returned (.tuple #[.slice va L.length vc, .int .i64 c]) ∧ Hid (Rows w' 26 va vc (L.map Ev.cells) ∧ Below wx.heap.size wx w')) :
    Calls Try.prog 5 #[x, y] w fun e w' => e = .returned (.bool true) ∧ Below w.heap.size w w' := by
  have cS : ∀ wx, Calls Try.prog 26 #[] wx fun e w' => e = .returned (.bool true) ∧ Below wx.heap.size wx w' := fun wx => small_any wx
  have cE : ∀ va vc ua uc wx, Rows wx 26 va vc (L.map Ev.cells) → Rows wx 26 ua uc (L.map Ev.cells) → Calls Try.prog 25 #[.slice va L.length vc, .slice ua L.length uc] wx fun e w' => e = .returned (.bool true) ∧ Below wx.heap.size wx w' := fun va vc ua uc wx h1 h2 => sameEvs_u L hwf va ua vc uc wx h1 h2
  clear hwf
  go_enter Try.func5, Try.ntmps5
  go_wp2_with (first
    | (go_at_call 27; (with_reducible refine c1.mono ?_); rintro e w1 ⟨va, vc, rfl, hb1⟩; clear c1)
    | (go_at_call 28; (with_reducible refine (c2 _ hb1.out.2).mono ?_); rintro e w2 ⟨ua, uc, rfl, hb2⟩; (have hB : Hid (Rows w2 26 va vc (L.map Ev.cells) ∧ Rows w2 26 ua uc (L.map Ev.cells) ∧ Below w.heap.size w w2) := ⟨hb1.out.1.later hb2.out.2, hb2.out.1, bthen hb1.out.2 hb2.out.2⟩); clear hb1 hb2 c2)
    | (go_at_call 25; (with_reducible refine (cE _ _ _ _ _ hB.out.1 hB.out.2.1).mono ?_); rintro e w3 ⟨rfl, hb3⟩; (have hB3 : Hid (Below w.heap.size w w3) := bthen hB.out.2.2 hb3); clear hb3 cE hB)
    | (go_at_call 26; (with_reducible refine (cS _).mono ?_); rintro e w4 ⟨rfl, hb4⟩; (have hB4 : Hid (Below w.heap.size w w4) := bthen hB3.out hb4); clear hb4 cS))
  go_ret
  exact ⟨rfl, hB4.out⟩
theorem applies_any (l : List Ev) (la : Option Addr) (lc : Nat) (ps : List Int) (pa : Option Addr) (pc : Nat) (w : World) (hl : EvsIn w la lc l) (hp : IntsIn w pa pc ps) : Calls Try.prog 5 #[.slice la l.length lc, .slice pa ps.length pc] w fun e w' => e = .returned (.bool true) ∧ Below w.heap.size w w' := by
  obtain ⟨c, hc⟩ := check_ex l
  by_cases h0 : c = 2 ∨ c = 7
  · exact applies_told _ _ [] (by simp) c w ((apply_err l la lc _ w hl.1 c hc h0).mono fun e w' ⟨he, hb⟩ => ⟨none, 0, he, rows_nil26 _, hb⟩) fun wx hb => (rapply_err l la lc _ wx (hl.1.later hb) c hc h0).mono fun e w' ⟨he, hb⟩ => ⟨none, 0, he, rows_nil26 _, hb⟩
  · have hz : l.length ≤ 256 ∧ (∀ x ∈ l, rightP x) ∧ c = 0 := by
      rcases hc with ⟨_, q⟩ | ⟨_, _, q⟩ | q
      · exact absurd (.inl q) h0
      · exact absurd (.inr q) h0
      · exact q
    obtain ⟨hlen, hrt, rfl⟩ := hz
    obtain ⟨R, hR, cP, cD⟩ := keeps_both l la lc ps pa pc w hl.1 hp hc hlen hrt
    refine applies_told _ _ (if R then arrE l ps else []) ?_ (if R then 0 else 1) w (apply_ok l la lc ps pa pc w hl.1 hp hc hlen R cP hR) fun wx hb => rapply_ok l la lc ps pa pc wx (hl.1.later hb) (hp.later hb) hc hlen R (fun wy hy => cD wy (bthen hb hy)) hR
    cases R with
    | false => simp
    | true =>
      intro e he
      have he : e ∈ arrE l ps := he
      unfold arrE at he
      rw [List.mem_map] at he
      obtain ⟨p, hpm, rfl⟩ := he
      have := (hR rfl).2 p hpm
      exact hl.2 _ (List.mem_of_getElem? (evf_at (show p.toNat < l.length by omega)))
end Go.Proofs.Ytblhbjbkbhoebaa.pg

