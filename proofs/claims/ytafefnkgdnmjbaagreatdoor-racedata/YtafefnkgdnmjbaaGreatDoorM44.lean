/- Package race's Races at the example. -/
import Derived.Test.YtafefnkgdnmjbaaGreatDoorM36
import Derived.Test.YtafefnkgdnmjbaaGreatDoorM16
import Derived.Test.YtafefnkgdnmjbaaGreatDoorM43
namespace Go.Proofs.YtafefnkgdnmjbaaGreatDoor.pg
open Go.ChangeShapes Go.WideShapes Go.ChangeAt Go.RowKit Go.Shelf
set_option linter.unusedVariables false
set_option linter.unusedSimpArgs false
set_option maxRecDepth 100000
theorem wf_exR : ∀ x ∈ exR, x.wf := by
  intro x hx
  simp only [exR, List.mem_cons, List.not_mem_nil, or_false] at hx
  rcases hx with rfl | rfl | rfl
  all_goals
    unfold Ev.wf Acc.wf I64
    decide
theorem gaL_exR : gaL (fun n => decide (n < 1)) exR [(0, 1), (1, 2)] = [fdX, fdX] := by
  have h1 : upK (fun n => decide (n < 1)) (evf exR 0) (evf exR 1) 6 = [0] := by decide
  have h2 : upK (fun n => decide (n < 1)) (evf exR 1) (evf exR 2) 6 = [0] := by decide
  unfold gaL gaP
  simp only [List.flatMap_cons, List.flatMap_nil, h1, h2]
  decide
theorem cpt_two : cpt [fdX, fdX] = [fdX] := by decide
theorem racesX : RacesX := by
  intro wx B ta tc hM hF ht
  obtain ⟨T, hT⟩ := tells_some (dpf exR)
  refine (races_tell (leM B) exR ta tc wx hM hF 0 0 (by rw [leM_pr]; exact chk_leP) ht (by decide) right_exR wf_exR T hT).mono ?_
  rintro e w' ⟨ra, rc, D, he, hp, hs, hr, hb⟩
  rw [pairs_exR hT, plV_leM, gaL_exR] at hp
  have hD : D = [fdX, fdX] := by
    have hm : ∀ x ∈ D, x = fdX := fun x hx => by
      have := hp.mem_iff.mp hx
      simpa using this
    have hl := hp.length_eq
    match D, hm, hl with
    | [a, b], hm, _ => rw [hm a (by simp), hm b (by simp)]
  rw [hD, cpt_two] at he hr
  exact ⟨ra, rc, he, hr, hb⟩
end Go.Proofs.YtafefnkgdnmjbaaGreatDoor.pg
/- Events that came in. -/
namespace Go.Proofs.YtafefnkgdnmjbaaGreatDoor.pg
open Go.ChangeShapes Go.WideShapes Go.ChangeAt Go.RowKit
set_option linter.unusedVariables false
/-- Events that came in. -/
def EvsIn (w : World) (b : Option Addr) (c : Nat) (l : List Ev) : Prop := Rows w 26 b c (l.map Ev.cells) ∧ ∀ x ∈ l, x.wf
section
variable {H : Type} {enc : TypeId × Value → H} {w : World} {base : Nat} {spare : Nat → Bool} {held : Bool}
theorem evs_sz {n : Nat} {a : Option Addr} {len cap : Nat} {y : DataW H × List MemPlace} (h : DataW.trod enc Tryz.prog w base spare held n 22 [.slice a len cap] = some y) (hs : Sz Tryz.prog 22 y.1) : ∃ l : List Ev, l.length = len ∧ EvsIn w a cap l := by
  obtain ⟨l, rfl, h1, h2, h3⟩ := rows_sz (k := 26) ev0 Ev.cells Ev.wf Tryz.underlying22 (by kernel_rfl) (by omega) (fun n cs y hl h _ => ev_in hl h) h hs
  exact ⟨l, rfl, h1, h2⟩
end
end Go.Proofs.YtafefnkgdnmjbaaGreatDoor.pg
/- RaceData. -/
namespace Go.Proofs.YtafefnkgdnmjbaaGreatDoor.pg
open Go.ChangeShapes Go.WideShapes Go.ChangeAt Go.RowKit Go.Shelf
set_option linter.unusedVariables false
set_option linter.unusedSimpArgs false
set_option maxRecDepth 100000
attribute [local go_sem ↓] Go.wp_at_zero Go.wp_at_succ
set_option maxHeartbeats 1000000 in
theorem rraces_bad (M : MPr) (la : Option Addr) (ln lc : Nat) (w : World) (d : Int) (hd : d = 2 ∨ d = 3 ∨ d = 7) (cF : ∀ wx, Below w.heap.size w wx → Calls Tryz.prog 22 #[M.val, .slice la ln lc] wx fun e w' => e = .returned (.int .i64 d) ∧ Below wx.heap.size wx w') :
    Calls Tryz.prog 16 #[M.val, .slice la ln lc] w fun e w' => e = .returned (.tuple #[.slice none 0 0, .int .i64 d]) ∧ Below w.heap.size w w' := by
  rcases hd with rfl | rfl | rfl
  all_goals
    go_enter Tryz.func16, Tryz.ntmps16
    go_wp2_with (go_at_call 22; (with_reducible refine (cF _ (boxed _ _)).mono ?_); rintro e w1 ⟨rfl, hb1⟩; (have s1 : Hid (Below w.heap.size w w1) := bthen (boxed _ _) hb1); clear hb1)
    go_ret2
    exact ⟨rfl, s1.out⟩
set_option maxHeartbeats 4000000 in
theorem raceData_bad (M : MPr) (la : Option Addr) (ln lc : Nat) (w : World) (hF : prog.Forms w) (d : Int) (hd : d = 2 ∨ d = 3 ∨ d = 7)
    (cD : ∀ wx, Below w.heap.size w wx → Calls Tryz.prog 14 #[M.val, .slice la ln lc] wx fun e w' => e = .returned (.tuple #[.slice none 0 0, .int .i64 d]) ∧ Below wx.heap.size wx w')
    (cR : ∀ wx, Below w.heap.size w wx → Calls Tryz.prog 15 #[M.val, .slice la ln lc] wx fun e w' => e = .returned (.tuple #[.slice none 0 0, .int .i64 d]) ∧ Below wx.heap.size wx w')
    (cX : ∀ wx, Below w.heap.size w wx → Calls Tryz.prog 16 #[M.val, .slice la ln lc] wx fun e w' => e = .returned (.tuple #[.slice none 0 0, .int .i64 d]) ∧ Below wx.heap.size wx w') :
    Calls Tryz.prog 4 #[M.val, .slice la ln lc] w fun e w' => e = .returned (.bool true) ∧ Below w.heap.size w w' := by
  have cS : ∀ wx, Below w.heap.size w wx → Calls Tryz.prog 11 #[] wx fun e w' => e = .returned (.bool true) ∧ Below wx.heap.size wx w' := fun wx hb => speaks14_of racesX wx (hF.later hb)
  have cQ : ∀ wx, Calls Tryz.prog 17 #[.slice none 0 0, .slice none 0 0] wx fun e w' => e = .returned (.bool true) ∧ Below wx.heap.size wx w' := fun wx => sameFounds_any [] (by simp) (by simp) none none 0 0 wx ⟨by simp, by omega, fun _ => ⟨rfl, rfl⟩, .inl rfl⟩ ⟨by simp, by omega, fun _ => ⟨rfl, rfl⟩, .inl rfl⟩
  have h0 : Hid ((w.alloc (objP M)).heap[w.heap.size]? = some (objP M) ∧ Below w.heap.size w (w.alloc (objP M))) := ⟨heap_alloc_new _ _, boxed _ _⟩
  clear hF
  rcases hd with rfl | rfl | rfl
  all_goals
    go_enter Tryz.func4, Tryz.ntmps4
    go_wp2_with (first
      | (go_at_call 14; (with_reducible refine (cD _ h0.out.2).mono ?_); rintro e w1 ⟨rfl, hb1⟩; (have s1 : Hid (w1.heap[w.heap.size]? = some (objP M) ∧ Below w.heap.size w w1) := ⟨blk_onR h0.out.1 hb1, bthen h0.out.2 hb1⟩); clear hb1; (obtain ⟨k0, k1, k2, k3⟩ := p4 s1.out.1))
      | (go_at_call 15; (with_reducible refine (cR _ s1.out.2).mono ?_); rintro e w2 ⟨rfl, hb2⟩; (have s2 : Hid (w2.heap[w.heap.size]? = some (objP M) ∧ Below w.heap.size w w2) := ⟨blk_onR s1.out.1 hb2, bthen s1.out.2 hb2⟩); clear hb2 k0 k1 k2 k3; (obtain ⟨k0, k1, k2, k3⟩ := p4 s2.out.1))
      | (go_at_call 16; (with_reducible refine (cX _ s2.out.2).mono ?_); rintro e w3 ⟨rfl, hb3⟩; (have s3 : Hid (Below w.heap.size w w3) := bthen s2.out.2 hb3); clear hb3 k0 k1 k2 k3)
      | (go_at_call 17; (with_reducible refine (cQ _).mono ?_); rintro e w4 ⟨rfl, hb4⟩; (have s4 : Hid (Below w.heap.size w w4) := bthen s3.out hb4); clear hb4)
      | (go_at_call 11; (with_reducible refine (cS _ s4.out).mono ?_); rintro e w5 ⟨rfl, hb5⟩; (have s5 : Hid (Below w.heap.size w w5) := bthen s4.out hb5); clear hb5))
    go_ret
    exact ⟨rfl, s5.out⟩
set_option maxHeartbeats 4000000 in
theorem raceData_ok (M : MPr) (l : List Ev) (la : Option Addr) (lc : Nat) (w : World) (hM : M.lies w) (hF : prog.Forms w) (b c : Int) (hr : chk insP M.pr = (0, b, c)) (hl : Rows w 26 la lc (l.map Ev.cells)) (hlen : l.length ≤ 256) (hrt : ∀ x ∈ l, rightP x) (hwf : ∀ x ∈ l, x.wf) :
    Calls Tryz.prog 4 #[M.val, .slice la l.length lc] w fun e w' => e = .returned (.bool true) ∧ Below w.heap.size w w' := by
  obtain ⟨T, hT⟩ := tells_some (dpf l)
  have h8 : M.vars.length ≤ 8 := vars8 (P := M.pr) hr
  have hrR : (chk insR M.pr).1 = 0 := (right_iff M.pr).mp (by rw [hr])
  obtain ⟨E, hE⟩ : ∃ E, E = (rcL T l fun _ _ => true).filter fun p => anyB M.vars (evf l p.1) (evf l p.2) := ⟨_, rfl⟩
  have hEd : rcL T l (daF M.vars l) = E := by rw [hE]; exact data_one hrt
  have hin : ∀ p ∈ E, p.1 < p.2 ∧ p.2 < l.length := fun p hp => by (rw [hE] at hp; exact edL_in (List.mem_filter.mp (List.mem_filter.mp hp).1).1)
  have hEl : E.length ≤ 65536 := by (rw [hE]; exact Nat.le_trans (List.length_filter_le _ _) (Nat.le_trans (List.length_filter_le _ _) (edL_len hlen)))
  have cD : ∀ wx, Below w.heap.size w wx → Calls Tryz.prog 14 #[M.val, .slice la l.length lc] wx fun e w' => ∃ da dc, e = .returned (.tuple #[.slice da E.length dc, .int .i64 0]) ∧ Rows w' 2 da dc (E.map edg) ∧ Below wx.heap.size wx w' := fun wx hb => by (have := data_ok M l la lc wx (hM.later hb) (hF.later hb) b c hr (hl.later hb) hlen hrt T hT; rw [hEd] at this; exact this)
  have hOl : (ouF M.vars l E E.length).length ≤ 1000000 := by (have := ouF_len h8 l E E.length; omega)
  have hOw : ∀ x ∈ ouF M.vars l E E.length, x.wf := ouF_wf h8 hwf hin E.length
  have cR : ∀ wx, Below w.heap.size w wx → Calls Tryz.prog 15 #[M.val, .slice la l.length lc] wx fun e w' => ∃ ra rc, e = .returned (.tuple #[.slice ra (ouF M.vars l E E.length).length rc, .int .i64 0]) ∧ Rows w' 7 ra rc ((ouF M.vars l E E.length).map Fd.cells) ∧ Below wx.heap.size wx w' := fun wx hb => (races_tell M l la lc wx (hM.later hb) (hF.later hb) b c hr (hl.later hb) hlen hrt hwf T hT).mono fun e w' ⟨ra, rc, D, he, hp, hs, hrr, hbb⟩ => by
    have e1 : cpt D = ouF M.vars l E E.length := found_one hrt hp hs hE
    rw [e1] at he hrr
    exact ⟨ra, rc, he, hrr, hbb⟩
  have cX : ∀ wx, Below w.heap.size w wx → Calls Tryz.prog 16 #[M.val, .slice la l.length lc] wx fun e w' => ∃ ra rc, e = .returned (.tuple #[.slice ra (ouF M.vars l E E.length).length rc, .int .i64 0]) ∧ Rows w' 7 ra rc ((ouF M.vars l E E.length).map Fd.cells) ∧ Below wx.heap.size wx w' := fun wx hb => rraces_ok M l la lc wx (hM.later hb) hrR h8 (hl.later hb) hlen hrt hwf T hT E hE
  have cE : ∀ wx, Below w.heap.size w wx → Calls Tryz.prog 18 #[M.val, .slice la l.length lc] wx fun e w' => ∃ va vc, e = .returned (.slice va E.length vc) ∧ Rows w' 2 va vc (E.map edg) ∧ Below wx.heap.size wx w' := fun wx hb => by (rw [hE]; exact rdata_any M l la lc wx (hM.later hb) h8 (hl.later hb) hlen T hT)
  have cS : ∀ wx, Below w.heap.size w wx → Calls Tryz.prog 11 #[] wx fun e w' => e = .returned (.bool true) ∧ Below wx.heap.size wx w' := fun wx hb => speaks14_of racesX wx (hF.later hb)
  have h0 : Hid ((w.alloc (objP M)).heap[w.heap.size]? = some (objP M) ∧ Below w.heap.size w (w.alloc (objP M))) := ⟨heap_alloc_new _ _, boxed _ _⟩
  have hOlH : Hid _ := hOl
  have hOwH : Hid _ := hOw
  have hElH : Hid _ := hEl
  clear hM hF hr hl hlen hrt hwf hT h8 hrR hE hEd hin hOl hOw hEl
  generalize ouF M.vars l E E.length = O at *
  go_enter Tryz.func4, Tryz.ntmps4
  go_wp2_with (first
    | (go_at_call 14; (with_reducible refine (cD _ h0.out.2).mono ?_); rintro e w1 ⟨da, dc, rfl, hr1, hb1⟩; (have s1 : Hid (w1.heap[w.heap.size]? = some (objP M) ∧ Below w.heap.size w w1 ∧ Rows w1 2 da dc (E.map edg)) := ⟨blk_onR h0.out.1 hb1, bthen h0.out.2 hb1, hr1⟩); clear hb1 hr1; (obtain ⟨k0, k1, k2, k3⟩ := p4 s1.out.1))
    | (go_at_call 15; (with_reducible refine (cR _ s1.out.2.1).mono ?_); rintro e w2 ⟨ra, rc, rfl, hr2, hb2⟩; (have s2 : Hid (w2.heap[w.heap.size]? = some (objP M) ∧ Below w.heap.size w w2 ∧ Rows w2 2 da dc (E.map edg) ∧ Rows w2 7 ra rc (O.map Fd.cells)) := ⟨blk_onR s1.out.1 hb2, bthen s1.out.2.1 hb2, s1.out.2.2.later hb2, hr2⟩); clear hb2 hr2 k0 k1 k2 k3; (obtain ⟨k0, k1, k2, k3⟩ := p4 s2.out.1))
    | (go_at_call 16; (with_reducible refine (cX _ s2.out.2.1).mono ?_); rintro e w3 ⟨xa, xc, rfl, hr3, hb3⟩; (have s3 : Hid (w3.heap[w.heap.size]? = some (objP M) ∧ Below w.heap.size w w3 ∧ Rows w3 2 da dc (E.map edg) ∧ Rows w3 7 ra rc (O.map Fd.cells) ∧ Rows w3 7 xa xc (O.map Fd.cells)) := ⟨blk_onR s2.out.1 hb3, bthen s2.out.2.1 hb3, s2.out.2.2.1.later hb3, s2.out.2.2.2.later hb3, hr3⟩); clear hb3 hr3 k0 k1 k2 k3)
    | (go_at_call 17; (refine (sameFounds_any O hOlH.out hOwH.out ra xa rc xc _ s3.out.2.2.2.1 s3.out.2.2.2.2).mono ?_); rintro e w4 ⟨rfl, hb4⟩; (have s4 : Hid (w4.heap[w.heap.size]? = some (objP M) ∧ Below w.heap.size w w4 ∧ Rows w4 2 da dc (E.map edg)) := ⟨blk_onR s3.out.1 hb4, bthen s3.out.2.1 hb4, s3.out.2.2.1.later hb4⟩); clear hb4)
    | (go_at_call 11; (with_reducible refine (cS _ s4.out.2.1).mono ?_); rintro e w5 ⟨rfl, hb5⟩; (have s5 : Hid (w5.heap[w.heap.size]? = some (objP M) ∧ Below w.heap.size w w5 ∧ Rows w5 2 da dc (E.map edg)) := ⟨blk_onR s4.out.1 hb5, bthen s4.out.2.1 hb5, s4.out.2.2.later hb5⟩); clear hb5; (obtain ⟨k0, k1, k2, k3⟩ := p4 s5.out.1))
    | (go_at_call 18; (with_reducible refine (cE _ s5.out.2.1).mono ?_); rintro e w6 ⟨va, vc, rfl, hr6, hb6⟩; (have s6 : Hid (Below w.heap.size w w6 ∧ Rows w6 2 da dc (E.map edg) ∧ Rows w6 2 va vc (E.map edg)) := ⟨bthen s5.out.2.1 hb6, s5.out.2.2.later hb6, hr6⟩); clear hb6 hr6 k0 k1 k2 k3)
    | (go_at_call 12; (refine (samePairs_any E hElH.out da va dc vc _ s6.out.2.1 s6.out.2.2).mono ?_); rintro e w7 ⟨rfl, hb7⟩; (have s7 : Hid (Below w.heap.size w w7) := bthen s6.out.1 hb7)))
  go_ret
  exact ⟨rfl, s7.out⟩
theorem raceData_any (M : MPr) (l : List Ev) (la : Option Addr) (lc : Nat) (w : World) (hM : M.lies w) (hl : EvsIn w la lc l) (hF : prog.Forms w) : Calls Tryz.prog 4 #[M.val, .slice la l.length lc] w fun e w' => e = .returned (.bool true) ∧ Below w.heap.size w w' := by
  obtain ⟨a, b, c, hr⟩ : ∃ a b c, chk insP M.pr = (a, b, c) := ⟨_, _, _, rfl⟩
  by_cases ha : a = 0
  · subst ha
    have hrR : (chk insR M.pr).1 = 0 := (right_iff M.pr).mp (by rw [hr])
    have bad : ∀ d, checkP l d → (d = 2 ∨ d = 7) → Calls Tryz.prog 4 #[M.val, .slice la l.length lc] w fun e w' => e = .returned (.bool true) ∧ Below w.heap.size w w' := fun d hd h27 =>
      raceData_bad M la l.length lc w hF d (by rcases h27 with h | h; exact .inl h; exact .inr (.inr h)) (fun wx hb => data_bad M l la lc wx (hM.later hb) (hF.later hb) b c hr (hl.1.later hb) d hd h27) (fun wx hb => races_badT M l la lc wx (hM.later hb) (hF.later hb) b c hr (hl.1.later hb) d hd h27) (fun wx hb => rraces_bad M la l.length lc wx d (by rcases h27 with h | h; exact .inl h; exact .inr (.inr h)) (fun wy hby => fit_ev M l la lc wy (hM.later (bthen hb hby)) hrR (hl.1.later (bthen hb hby)) d hd))
    obtain ⟨d, hd⟩ := check_ex l
    rcases hd with ⟨h1, h2⟩ | ⟨h1, h2, h3⟩ | ⟨h1, h2, h3⟩
    · exact bad d (.inl ⟨h1, h2⟩) (.inl h2)
    · exact bad d (.inr (.inl ⟨h1, h2, h3⟩)) (.inr h3)
    · exact raceData_ok M l la lc w hM hF b c hr hl.1 h1 h2 hl.2
  · have hrR : (chk insR M.pr).1 ≠ 0 := fun q => ha (by have := (right_iff M.pr).mpr q; rw [hr] at this; exact this)
    exact raceData_bad M la l.length lc w hF 3 (.inr (.inl rfl)) (fun wx hb => data_prog M la l.length lc wx (hM.later hb) (hF.later hb) a b c ha hr) (fun wx hb => races_prog M la l.length lc wx (hM.later hb) (hF.later hb) a b c ha hr) (fun wx hb => rraces_bad M la l.length lc wx 3 (.inr (.inl rfl)) (fun wy hby => fit_prog M la l.length lc wy (hM.later (bthen hb hby)) hrR))
end Go.Proofs.YtafefnkgdnmjbaaGreatDoor.pg
